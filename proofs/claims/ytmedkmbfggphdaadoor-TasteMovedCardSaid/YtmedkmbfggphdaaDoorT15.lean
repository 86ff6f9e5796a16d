/- TasteMoved: if all that is said of a lot is as much greater, a truth in which its sharpness is as much greater is one. The walk of the law, for any book in memory and any numbers. -/
import Derived.Test.YtmedkmbfggphdaaDoorCm
import Derived.Test.YtmedkmbfggphdaaDoorN3b
import Derived.Test.YtmedkmbfggphdaaDoorN2
import Derived.Test.YtmedkmbfggphdaaDoorL6
import Derived.Test.YtmedkmbfggphdaaDoorM14
set_option linter.unusedSimpArgs false
set_option linter.unusedVariables false
set_option linter.constructorNameAsVariable false
namespace Go.Proofs.YtmedkmbfggphdaaDoor
open Go.RowKit

/-- A list that is a row of the call's own. -/
structure OwnL (B gs cs : Nat) (l : List Int) (w : World) : Prop where
  o : w.ownsRow B 2 1 (.slice (some ⟨gs, 0, none⟩) l.length cs) l.length (vals l)
theorem OwnL.to {B gs cs : Nat} {l : List Int} {w w' : World} (h : OwnL B gs cs l w) (hp : Pure w w') : OwnL B gs cs l w' := ⟨own_pure h.o hp⟩
theorem OwnL.row {B gs cs : Nat} {l : List Int} {w : World} (h : OwnL B gs cs l w) : B ≤ gs ∧ ∃ cur, w.heap[gs]? = some (.cells cur 2 (0, 0)) := by
  rcases h.o.2 with ⟨e, _⟩ | ⟨g, c, cur, e, h1, h2, _⟩
  · cases e
  · cases e; exact ⟨h1, _, h2⟩
theorem OwnL.lt {B gs cs : Nat} {l : List Int} {w : World} (h : OwnL B gs cs l w) : gs < w.heap.size := by
  obtain ⟨_, cur, h1⟩ := h.row; exact (Array.getElem?_eq_some_iff.1 h1).1
theorem OwnL.frz {B gs cs : Nat} {l : List Int} {w : World} (h : OwnL B gs cs l w) (o : Nat) : w.frozen? ⟨gs, o, none⟩ = false := by
  obtain ⟨_, cur, h1⟩ := h.row; exact frozen_of_row w _ o _ _ h1
theorem OwnL.notBox {B gs cs g : Nat} {l : List Int} {w : World} (h : OwnL B gs cs l w) {c : Array Value} (hg : w.heap[g]? = some (.cells c 26 (0, 0))) : g ≠ gs := fun e => by
  obtain ⟨_, cur, h1⟩ := h.row; rw [e, h1] at hg; simp at hg
theorem OwnL.cell {B gs cs : Nat} {l : List Int} {w : World} (h : OwnL B gs cs l w) {i : Nat} (hi : i < l.length) : w.cell? ⟨gs, i, none⟩ = some (.int .i64 (nthI l i)) := by
  rw [World.ownsRow.cellAt h.o i (by omega)]
  unfold vals nthI
  rw [List.getElem?_map, List.getD_eq_getElem?_getD, List.getElem?_eq_getElem hi]
  rfl
theorem OwnL.sl {B gs cs : Nat} {l : List Int} {w : World} (h : OwnL B gs cs l w) : SlI w.heap.size w (.slice (some ⟨gs, 0, none⟩) l.length cs) l := SlI.of_own2 h.o rfl
theorem OwnL.set {B gs cs : Nat} {l : List Int} {w : World} (h : OwnL B gs cs l w) (i : Nat) (v : Int) : OwnL B gs cs (l.set i v) (w.setCell ⟨gs, i, none⟩ (.int .i64 v)) := by
  refine ⟨?_⟩
  rw [List.length_set]
  refine ⟨by unfold vals; rw [List.length_map, List.length_set, Nat.mul_one], .inr ?_⟩
  rcases h.o.2 with ⟨e, _⟩ | ⟨g, c, cur, e, a1, a2, a3, a4, a5, a6⟩
  · cases e
  · cases e
    refine ⟨gs, cs, cur.setIfInBounds i (.int .i64 v), rfl, a1, ?_, a3, a4, by rw [Array.size_setIfInBounds]; exact a5, ?_⟩
    · unfold World.setCell
      show (w.heap.modify gs _)[gs]? = _
      rw [Array.getElem?_modify, if_pos rfl, a2]
      rfl
    · rw [Array.toList_setIfInBounds, List.take_set, a6]
      unfold vals
      rw [List.map_set]
theorem SlI.off {w : World} {v : Value} {xs : List Int} (h : SlI w.heap.size w v xs) {gs o : Nat} {u : Value} (hne : ∀ x, v.ownBlock = some x → x ≠ gs) : SlI (w.setCell ⟨gs, o, none⟩ u).heap.size (w.setCell ⟨gs, o, none⟩ u) v xs := by
  rcases h with ⟨rfl, rfl⟩ | ⟨b, o', c, rfl, h1, h2⟩
  · exact .inl ⟨rfl, rfl⟩
  · refine .inr ⟨b, o', c, rfl, by simpa using h1, fun k x hk => ?_⟩
    have := hne b rfl
    exact (World.cell?_of_block (w := w) (Go.Deep.blk_setCell_other _ _ _ _ (show b ≠ gs from this))).trans (h2 k x hk)
structure PureB (V w : World) : Prop where
  p : Pure V w
theorem PureB.to {V w w' : World} (h : PureB V w) (hp : Pure w w') : PureB V w' := ⟨h.p.trans hp⟩
theorem SamI.to {B : Nat} {w w' : World} {v : Value} {b : BK} {k : Nat} (h : SamI B w v b k) (hp : Pure w w') : SamI B w' v b k := h.pure hp
def BlkAt (g : Nat) (O : Obj) (w : World) : Prop := w.heap[g]? = some O
theorem BlkAt.to {g : Nat} {O : Obj} {w w' : World} (h : BlkAt g O w) (hp : Pure w w') : BlkAt g O w' := (hp.block g (Array.getElem?_eq_some_iff.1 h).1 id).trans h
theorem BlkAt.lt {g : Nat} {O : Obj} {w : World} (h : BlkAt g O w) : g < w.heap.size := (Array.getElem?_eq_some_iff.1 h).1
/-- What is known in a round that moves one taste, by what is done. -/
structure MR (gj g : Nat) (lo hi D : Int) (wz : World) (x : Bool) (W : World) : Prop where
  p : x = false → Pure wz W
  y : x = true → ∃ W0, Pure wz W0 ∧ W = (W0.setCell ⟨gj, g * 3 + 1, none⟩ (.int .i64 (lo + D))).setCell ⟨gj, g * 3 + 2, none⟩ (.int .i64 (hi + D))
theorem MR.start (gj g : Nat) (lo hi D : Int) (wz : World) : MR gj g lo hi D wz false wz.drew := ⟨fun _ => (Diff.refl _).drew, fun h => Bool.noConfusion h⟩
theorem MR.to {gj g : Nat} {lo hi D : Int} {wz W W' : World} (h : MR gj g lo hi D wz false W) (hp : Pure W W') : MR gj g lo hi D wz false W' := ⟨fun _ => (h.p rfl).trans hp, fun h => Bool.noConfusion h⟩
theorem MR.store {gj g : Nat} {lo hi D : Int} {wz W : World} (h : MR gj g lo hi D wz false W) : MR gj g lo hi D wz true ((W.setCell ⟨gj, g * 3 + 1, none⟩ (.int .i64 (lo + D))).setCell ⟨gj, g * 3 + 2, none⟩ (.int .i64 (hi + D))) :=
  ⟨fun h => Bool.noConfusion h, fun _ => ⟨W, h.p rfl, rfl⟩⟩
theorem tmod400 (x : Int) : -400 < x.tmod 400 ∧ x.tmod 400 < 400 := by
  refine ⟨?_, Int.tmod_lt_of_pos x (by omega)⟩
  by_cases h : 0 ≤ x
  · have := Int.tmod_nonneg 400 h; omega
  · have h2 := Int.tmod_lt_of_pos (-x) (show (0 : Int) < 400 by omega)
    rw [Int.neg_tmod] at h2
    omega

set_option maxRecDepth 20000 in
set_option maxHeartbeats 16000000 in
theorem MovedLaw_any (w : World) (b : BK) (p : Option Addr) (cap : Nat) (q1 : Option Addr) (n1 c1 : Nat) (f1 : Nat → Int) (x2 x3 : Int) (hb : BookAt w.heap.size w p b) (hr1 : Row w.heap.size w q1 n1 fun k => .int .u16 (f1 k)) (hw1 : ∀ i, i < n1 → (Lit.int .u16 (f1 i)).wf = true)
    (hx2 : (Lit.int .u8 x2).wf = true) (hx3 : (Lit.int .i16 x3).wf = true) (hg : Gl w) :
    Calls Tryd.prog 15 #[bookV b p cap, .slice q1 n1 c1, .int .u8 x2, .int .i16 x3] w fun e w' => e = .returned (.bool true) ∧ Pure w w' := by
  have hmx : Tryd.prog.follows .mixedOrders = true := by kernel_rfl
  have HR1 := Lib.hid hr1
  have HF1 : Hid (∀ i, i < n1 → 0 ≤ f1 i ∧ f1 i ≤ 65535) := fun i hi => Go.bounds_u16 (hw1 i hi)
  have hb2 := Go.bounds_u8 hx2
  have hb3 := Go.bounds_i16 hx3
  have htm := tmod400 x3
  clear hr1 hw1 hx2 hx3
  have HB := Lib.hid hb
  have HG := Lib.hid hg
  clear hb hg
  go_enter Tryd.func15, Tryd.ntmps15
  go_wp2_with fail
  obtain ⟨X, hX⟩ : ∃ X, w.alloc (.cells (bookC b p cap) 26) = X := ⟨_, rfl⟩
  have hP : Hid (Pure w X) := by rw [← hX]; exact (Diff.refl w).alloc _
  have hX1 : BoxB w.heap.size b p cap X := by rw [← hX]; exact BoxB.new w b p cap 26
  obtain ⟨g0, hg0⟩ : ∃ g, w.heap.size = g := ⟨_, rfl⟩
  rw [hX]
  rw [hg0] at hX1 ⊢
  clear hX hg0
  have H0 := Lib.hid hX1
  obtain ⟨c0, c1', c2', c3, cl⟩ := hX1
  refine (fine_any X b p cap (HB.out.to hP.out)).mono ?_
  rintro e w1 ⟨rfl, hp1⟩
  have hP1 : Hid (Pure w w1) := hP.out.trans hp1
  have HA1 := Lib.hid (H0.out.pure hp1)
  clear c0 c1' c2' c3 cl hp1 hP H0
  obtain ⟨za0, za1, za2, za3, zal⟩ := HA1.out
  cases hfine : fineB b with
  | false =>
    go_wp2_with fail
    refine (Works_any w1 (HG.out.to hP1.out)).mono ?_
    rintro e w2 ⟨rfl, hp2⟩
    have hP2 : Hid (Pure w w2) := hP1.out.trans hp2
    clear hp2
    go_wp2_with fail
    exact bodyPost_ret (v := .bool true) (by simp [results, Tryd.results15, go_sem]) rfl ⟨rfl, hP2.out⟩
  | true =>
    obtain ⟨hs, hck⟩ := fineB_iff.1 hfine
    have hv := checkB_valid hck
    have HCK := Lib.hid hck
    clear hck hfine
    by_cases hn1 : 30 < n1
    · have h30i : 30 < (n1 : Int) := by omega
      go_wp2_with fail
      refine (Works_any w1 (HG.out.to hP1.out)).mono ?_
      rintro e w2 ⟨rfl, hp2⟩
      have hP2 : Hid (Pure w w2) := hP1.out.trans hp2
      clear hp2
      go_wp2_with fail
      exact bodyPost_ret (v := .bool true) (by simp [results, Tryd.results15, go_sem]) rfl ⟨rfl, hP2.out⟩
    have hn1i : ¬ 30 < (n1 : Int) := by omega
    have HB1 := Lib.hid (HB.out.to hP1.out)
    have HG1 := Lib.hid (HG.out.to hP1.out)
    have HR11 := Lib.hid (HR1.out.to hP1.out)
    clear HB HG HR1
    go_wp2_with fail
    have HPW1 : Hid (Pure w w1) := hP1.out
    have HGK := Lib.hid HG1.out
    have HV1 : Hid (PureB w1 w1) := ⟨Diff.refl _⟩
    obtain ⟨u1, hu1⟩ : ∃ u, numU f1 n1 = u := ⟨_, rfl⟩
    have HEu1 := Lib.hid hu1
    clear hu1
    refine (Held2_any w1 b p cap q1 n1 c1 f1 hv HB1.out HR11.out (by omega) HF1.out).mono ?_
    rintro e w2 ⟨hq, hp⟩
    rw [HEu1.out] at hq
    obtain ⟨bap, bac, gs, cs, tv, rfl, hbk, hls, hlt, hap⟩ := hq
    obtain ⟨ba, hba⟩ : ∃ c, heldB b u1 = c := ⟨_, rfl⟩
    have HEba := Lib.hid hba
    rw [hba] at hbk ⊢
    clear hba
    have hP2 : Hid (Pure w w2) := hP1.out.trans hp
    have HA2 := Lib.hid (HA1.out.pure hp)
    have HB2 := Lib.hid (HB1.out.to hp)
    have HG2 := Lib.hid (HG1.out.to hp)
    have HR12 := Lib.hid (HR11.out.to hp)
    have HV2 := Lib.hid (HV1.out.to hp)
    have LaB2 := Lib.hid (hbk)
    have LaO2 := Lib.hid ((OwnL.mk hls))
    have LaT2 := Lib.hid (hlt)
    clear hp hP1 HA1 za0 za1 za2 za3 zal HB1 HG1 HR11 HV1
    obtain ⟨za0, za1, za2, za3, zal⟩ := HA2.out
    obtain ⟨Lar, Lae, rfl⟩ := hlt.form
    have HAP := Lib.hid hap
    clear hbk hls hlt hap
    go_wp2_with fail
    obtain ⟨w3, hw3⟩ : ∃ v, w2.alloc (.cells (bookC ba bap bac) 26) = v := ⟨_, rfl⟩
    have hp : Pure w2 w3 := by rw [← hw3]; exact (Diff.refl _).alloc _
    have hx : BoxB w2.heap.size ba bap bac w3 := by rw [← hw3]; exact BoxB.new w2 ba bap bac 26
    obtain ⟨g3, hg3⟩ : ∃ g, w2.heap.size = g := ⟨_, rfl⟩
    rw [hw3]
    rw [hg3] at hx ⊢
    clear hg3
    have hP3 : Hid (Pure w w3) := hP2.out.trans hp
    have HA3 := Lib.hid (HA2.out.pure hp)
    have HB3 := Lib.hid (HB2.out.to hp)
    have HG3 := Lib.hid (HG2.out.to hp)
    have HR13 := Lib.hid (HR12.out.to hp)
    have HV3 := Lib.hid (HV2.out.to hp)
    have LaB3 := Lib.hid (LaB2.out.to hp)
    have LaO3 := Lib.hid (LaO2.out.to hp)
    have LaT3 := Lib.hid (LaT2.out.to hp)
    have HC3 := Lib.hid hx
    clear hp hx hw3 hP2 HA2 za0 za1 za2 za3 zal HB2 HG2 HR12 HV2 LaB2 LaO2 LaT2
    obtain ⟨za0, za1, za2, za3, zal⟩ := HA3.out
    obtain ⟨zc0, zc1, zc2, zc3, zcl⟩ := HC3.out
    go_wp2_with fail
    have hl1 := hv.lots1
    have hl6 := hv.lots6
    have h12 := hv.tot
    obtain ⟨N, hN⟩ := Int.eq_ofNat_of_zero_le (show 0 ≤ b.lots by omega)
    obtain ⟨M, hM⟩ : ∃ m, b.total = m := ⟨_, rfl⟩
    obtain ⟨A, hA⟩ := Int.eq_ofNat_of_zero_le (show 0 ≤ x2 % b.lots from Int.emod_nonneg _ (by omega))
    have hAN : A < N := by have := Int.emod_lt_of_pos x2 (show 0 < b.lots by omega); omega
    have hlz : ¬ b.lots = 0 := by omega
    obtain ⟨D, hD⟩ : ∃ d, x3.tmod 400 = d := ⟨_, rfl⟩
    rw [hD] at htm
    obtain ⟨hD0, hD1⟩ := htm
    have HLN := Lib.hid hN
    have HMM := Lib.hid hM
    have HAA := Lib.hid hA
    have HDD := Lib.hid hD
    have hN6 : N ≤ 6 := by omega
    clear hN hM hA hD
    refine (fine_any w3 ba bap bac LaB3.out).mono ?_
    rintro e w4 ⟨rfl, hp⟩
    have hP4 : Hid (Pure w w4) := hP3.out.trans hp
    have HA4 := Lib.hid (HA3.out.pure hp)
    have HC4 := Lib.hid (HC3.out.pure hp)
    have HB4 := Lib.hid (HB3.out.to hp)
    have HG4 := Lib.hid (HG3.out.to hp)
    have HR14 := Lib.hid (HR13.out.to hp)
    have HV4 := Lib.hid (HV3.out.to hp)
    have LaB4 := Lib.hid (LaB3.out.to hp)
    have LaO4 := Lib.hid (LaO3.out.to hp)
    have LaT4 := Lib.hid (LaT3.out.to hp)
    clear hp hP3 HA3 HC3 za0 za1 za2 za3 zal zc0 zc1 zc2 zc3 zcl HB3 HG3 HR13 HV3 LaB3 LaO3 LaT3
    obtain ⟨za0, za1, za2, za3, zal⟩ := HA4.out
    obtain ⟨zc0, zc1, zc2, zc3, zcl⟩ := HC4.out
    cases hfine : fineB ba with
    | false =>
      go_wp2_with fail
      refine (Works_any w4 HG4.out).mono ?_
      rintro e w5 ⟨rfl, hp⟩
      have hP5 : Hid (Pure w w5) := hP4.out.trans hp
      have HA5 := Lib.hid (HA4.out.pure hp)
      have HC5 := Lib.hid (HC4.out.pure hp)
      have HB5 := Lib.hid (HB4.out.to hp)
      have HG5 := Lib.hid (HG4.out.to hp)
      have HR15 := Lib.hid (HR14.out.to hp)
      have HV5 := Lib.hid (HV4.out.to hp)
      have LaB5 := Lib.hid (LaB4.out.to hp)
      have LaO5 := Lib.hid (LaO4.out.to hp)
      have LaT5 := Lib.hid (LaT4.out.to hp)
      clear hp hP4 HA4 HC4 za0 za1 za2 za3 zal zc0 zc1 zc2 zc3 zcl HB4 HG4 HR14 HV4 LaB4 LaO4 LaT4
      obtain ⟨za0, za1, za2, za3, zal⟩ := HA5.out
      obtain ⟨zc0, zc1, zc2, zc3, zcl⟩ := HC5.out
      go_wp2_with fail
      exact bodyPost_ret (v := .bool true) (by simp [results, Tryd.results15, go_sem]) rfl ⟨rfl, hP5.out⟩
    | true =>
      obtain ⟨hsba, hck⟩ := fineB_iff.1 hfine
      have hvba := checkB_valid hck
      have HCKba := Lib.hid hck
      clear hck hfine
      go_wp2_with fail
      rw [HAA.out, HDD.out]
      obtain ⟨xs, hxs⟩ : ∃ l, hXs b u1 = l := ⟨_, rfl⟩
      have HXS := Lib.hid hxs
      obtain ⟨ys, hys⟩ : ∃ l, hYs b u1 = l := ⟨_, rfl⟩
      have HYS := Lib.hid hys
      rw [hxs] at LaO4 ⊢
      rw [hys] at LaT4 ⊢
      have hxl : xs.length = N := by rw [← hxs, hXs_length]; have := HLN.out; omega
      have HXL := Lib.hid hxl
      have hxi : ∀ i, i < N → 0 ≤ nthI xs i ∧ nthI xs i ≤ 1000 := fun i hi => by rw [← hxs, hXs_nth b u1 i (by have := HLN.out; omega)]; exact hS_in u1 i
      have HXI := Lib.hid hxi
      rw [hxl]
      clear hxs hys hxl hxi
      refine (same_any w4 ba bap bac hsba hvba LaB4.out).mono ?_
      rintro e ws ⟨v0, rfl, hsam, hps⟩
      obtain ⟨vq, vc, rfl⟩ := hsam.form
      clear za0 za1 za2 za3 zal
      clear zc0 zc1 zc2 zc3 zcl
      go_wp2_with fail
      obtain ⟨wb, hwb⟩ : ∃ V, ws.alloc (.cells #[.int .i64 ba.lo, .int .i64 ba.hi, .int .i64 ba.lots, .slice vq ba.n vc] 26) = V := ⟨_, rfl⟩
      have hpb : Pure ws wb := by rw [← hwb]; exact (Diff.refl _).alloc _
      have HK0 : Hid (BlkAt ws.heap.size (.cells #[.int .i64 ba.lo, .int .i64 ba.hi, .int .i64 ba.lots, .slice vq ba.n vc] 26 (0, 0)) wb) := by show BlkAt _ _ _; rw [← hwb]; exact World.alloc_heap_new _ _
      have HT0 : Hid (SamI w4.heap.size wb (.slice vq ba.n vc) (ba.mv A D 0 0) ba.n) := by show SamI _ _ _ _ _; rw [mv_zero]; exact hsam.pure hpb
      obtain ⟨gy, hgy⟩ : ∃ g, ws.heap.size = g := ⟨_, rfl⟩
      rw [hwb]
      rw [hgy] at HK0 ⊢
      have HQ0 : Hid (PureB w4 wb) := ⟨hps.trans hpb⟩
      have hn4 := hvba.n4
      have HSBA := Lib.hid hsba
      clear hwb hpb hgy hsam hps hsba
      go_wp2_with fail
      go_loopw [15] (fun i wr => ∃ k : Nat, k ≤ ba.n ∧ i = .int .i64 k ∧ Hid (SamI w4.heap.size wr (.slice vq ba.n vc) (ba.mv A D k 0) ba.n) ∧ Hid (BlkAt gy (.cells #[.int .i64 ba.lo, .int .i64 ba.hi, .int .i64 ba.lots, .slice vq ba.n vc] 26 (0, 0)) wr) ∧ Hid (PureB w4 wr)) (fun i _ => ba.n - (intOf i).toNat)
      case atStart => exact ⟨0, Nat.zero_le _, rfl, HT0.out, HK0.out, HQ0.out⟩
      case round =>
        obtain ⟨k, hk, rfl, HTr, HKr, HQr⟩ := hrel
        have hk0 : (0 : Int) ≤ k := by omega
        have y3 : wr.cell? ⟨gy, 3, none⟩ = some (.slice vq ba.n vc) := by rw [cell_of_row wr _ _ _ _ _ HKr.out]; rfl
        by_cases hkn : k < ba.n
        · obtain ⟨go, gk, ck, F, hvq, hgo1, hgo2, hgoc, hsit, -⟩ := HTr.out.sit hkn
          subst hvq
          have hki : (k : Int) < ba.n := by omega
          have hm16 := HSBA.out.2 k hkn
          have yc : wr.cell? ⟨go, k, none⟩ = some (.slice (some ⟨gk, 0, none⟩) (ba.m k) ck) := hgoc
          clear hgoc hgo1 hgo2 hsit
          go_wp2_with fail
          clear y3 yc
          go_loopw [16] (fun j wj => ∃ g : Nat, g ≤ ba.m k ∧ j = .int .i64 g ∧ Hid (SamI w4.heap.size wj (.slice (some ⟨go, 0, none⟩) ba.n vc) (ba.mv A D k g) ba.n) ∧ Hid (BlkAt gy (.cells #[.int .i64 ba.lo, .int .i64 ba.hi, .int .i64 ba.lots, .slice (some ⟨go, 0, none⟩) ba.n vc] 26 (0, 0)) wj) ∧ Hid (PureB w4 wj)) (fun j _ => ba.m k - (intOf j).toNat)
          case atStart => exact ⟨0, Nat.zero_le _, rfl, HTr.out, HKr.out, HQr.out⟩
          case round =>
            obtain ⟨g, hg, rfl, HTj, HKj, HQj⟩ := hrel
            have hg0 : (0 : Int) ≤ g := by omega
            have y3 : wr.cell? ⟨gy, 3, none⟩ = some (.slice (some ⟨go, 0, none⟩) ba.n vc) := by rw [cell_of_row wr _ _ _ _ _ HKj.out]; rfl
            obtain ⟨go', gj, cj, F', hvq, hgo1, hgo2, hgoc, hsit, hsay⟩ := HTj.out.sit hkn
            cases hvq
            have yc : wr.cell? ⟨go, k, none⟩ = some (.slice (some ⟨gj, 0, none⟩) (ba.m k) cj) := hgoc
            by_cases hgm : g < ba.m k
            · have hgi : (g : Int) < ba.m k := by omega
              obtain ⟨s1, s2, s3⟩ := hsit.cells hgm
              rw [mv_at] at s1 s2 s3
              have fz : ∀ o, wr.frozen? ⟨gj, o, none⟩ = false := fun o => hsit.row.frozen o
              have hgjl := hsit.row.lt
              have hgjm := hsit.low
              have hgy : gy ≠ gj := fun e => by obtain ⟨cs', h4, -⟩ := hsit.row; have h5 : wr.heap[gy]? = _ := HKj.out; rw [e, h4] at h5; simp at h5
              have HSAY : Hid ((ba.t k g).lot = (A : Int) → ∀ W0, Pure wr W0 → SamI w4.heap.size ((W0.setCell ⟨gj, g * 3 + 1, none⟩ (.int .i64 ((ba.t k g).lo + D))).setCell ⟨gj, g * 3 + 2, none⟩ (.int .i64 ((ba.t k g).hi + D))) (.slice (some ⟨go, 0, none⟩) ba.n vc) (ba.mv A D k (g + 1)) ba.n) := fun hl W0 hp => by
                obtain ⟨go', g', c', F', e1, e2, e3, e4, e5, h⟩ := (HTj.out.pure hp).sit hkn
                cases e1
                have e6 := ((pcell hp).1 _ _ hgo2).trans yc
                rw [e6] at e4
                simp only [Option.some.injEq, Value.slice.injEq, Addr.mk.injEq] at e4
                have e7 : gj = g' := e4.1.1
                subst e7
                have := h g hgm ((ba.t k g).lo + D) ((ba.t k g).hi + D)
                rw [← mv_next ba A D k g hl]
                exact this
              have r0 := hvba.lot0 k g hkn hgm
              have r1 := hvba.said0 k g hkn hgm
              have r2 := hvba.said1 k g hkn hgm
              have r3 := hvba.said2 k g hkn hgm
              obtain ⟨lt, hlt⟩ : ∃ x, (ba.t k g).lot = x := ⟨_, rfl⟩
              obtain ⟨lo, hlo⟩ : ∃ x, (ba.t k g).lo = x := ⟨_, rfl⟩
              obtain ⟨hi, hhi⟩ : ∃ x, (ba.t k g).hi = x := ⟨_, rfl⟩
              have HLT := Lib.hid hlt
              have HLO := Lib.hid hlo
              have HHI := Lib.hid hhi
              rw [hlt] at s1 r0
              rw [hlo] at s2 r1 r2
              rw [hhi] at s3 r2 r3
              have hcs : ba.m k ≤ cj := hsit.mc
              have HYC := Lib.hid yc
              have HS1 := Lib.hid s1
              have HS2 := Lib.hid s2
              have HS3 := Lib.hid s3
              have HFZ := Lib.hid fz
              rw [hlo, hhi] at HSAY
              clear hlt hlo hhi hsay hsit hgoc hgo1
              by_cases hla : lt = (A : Int)
              · have hlt2 : (ba.t k g).lot = (A : Int) := HLT.out.trans hla
                have hlb : (lt == (A : Int)) = true := by simpa using hla
                have HLA2 := Lib.hid hlt2
                clear hla hlt2
                go_wp2_with fail
                obtain ⟨wz, hwz⟩ : ∃ V, (wr.alloc (.cells #[.int .i64 lt, .int .i64 lo, .int .i64 hi] 70)) = V := ⟨_, rfl⟩
                have hpz : Pure wr wz := by rw [← hwz]; exact (Diff.refl _).alloc _
                have hbl : wz.heap[wr.heap.size]? = some (.cells #[.int .i64 lt, .int .i64 lo, .int .i64 hi] 70 (0, 0)) := by rw [← hwz]; exact World.alloc_heap_new _ _
                have HZ := Lib.hid hpz
                obtain ⟨gl, hgl⟩ : ∃ g, wr.heap.size = g := ⟨_, rfl⟩
                rw [hwz]
                rw [hgl] at hbl ⊢
                have HBL := Lib.hid hbl
                have hll : gl < wz.heap.size := (Array.getElem?_eq_some_iff.1 hbl).1
                have hmm : g * 3 + 2 < cj * 3 := by omega
                have HGO2 := Lib.hid hgo2
                have HGJL := Lib.hid hgjl
                clear hwz hpz hbl hgl y3 yc s1 s2 s3 fz hgo2 hgjl
                refine reg_invW (fun d a W => a = { tmps := #[bookV b p cap, Value.slice q1 n1 c1, Value.int IntKind.u8 x2, Value.int IntKind.i16 x3, Value.pointer (some { block := g0, off := 0 }), undef, undef, undef, Value.bool false, Value.pointer (some { block := g3, off := 0 }), Value.slice (some { block := gs, off := 0 }) N cs, Value.slice Lar ys.length Lae, Value.int IntKind.i64 (A : Int), Value.int IntKind.i64 D, Value.pointer (some { block := gy, off := 0 }), Value.int IntKind.i64 (k : Int), Value.int IntKind.i64 (g : Int), Value.pointer (some { block := gl, off := 0 }), undef, undef, Value.agg #[Value.int IntKind.i64 b.lo, Value.int IntKind.i64 b.hi, Value.int IntKind.i64 b.lots, Value.slice p b.n cap], Value.bool true, Value.bool false, Value.bool false, Value.slice q1 n1 c1, Value.int IntKind.i64 (n1 : Int), Value.bool (decide (30 < (n1 : Int))), Value.bool (decide (30 < (n1 : Int))), undef, Value.tuple #[bookV ba bap bac, Value.slice (some { block := gs, off := 0 }) N cs, Value.slice Lar ys.length Lae], Value.agg #[Value.int IntKind.i64 b.lo, Value.int IntKind.i64 b.hi, Value.int IntKind.i64 b.lots, Value.slice p b.n cap], Value.slice q1 n1 c1, Value.tuple #[bookV ba bap bac, Value.slice (some { block := gs, off := 0 }) N cs, Value.slice Lar ys.length Lae], bookV ba bap bac, Value.slice (some { block := gs, off := 0 }) N cs, Value.slice Lar ys.length Lae, Value.agg #[Value.int IntKind.i64 ba.lo, Value.int IntKind.i64 ba.hi, Value.int IntKind.i64 ba.lots, Value.slice bap ba.n bac], Value.bool true, Value.bool false, undef, Value.int IntKind.u8 x2, Value.int IntKind.i64 x2, Value.pointer (some { block := g0, off := 2 }), Value.int IntKind.i64 b.lots, Value.int IntKind.i64 (A : Int), Value.int IntKind.i16 x3, Value.int IntKind.i64 x3, Value.int IntKind.i64 D, Value.agg #[Value.int IntKind.i64 ba.lo, Value.int IntKind.i64 ba.hi, Value.int IntKind.i64 ba.lots, Value.slice bap ba.n bac], Value.agg #[Value.int IntKind.i64 ba.lo, Value.int IntKind.i64 ba.hi, Value.int IntKind.i64 ba.lots, Value.slice (some { block := go, off := 0 }) ba.n vc], Value.int IntKind.i64 (k : Int), Value.pointer (some { block := gy, off := 3 }), Value.slice (some { block := go, off := 0 }) ba.n vc, Value.int IntKind.i64 (ba.n : Int), Value.bool true, u55, u56, Value.int IntKind.i64 (g : Int), Value.pointer (some { block := gy, off := 3 }), Value.slice (some { block := go, off := 0 }) ba.n vc, Value.int IntKind.i64 (k : Int), Value.pointer (some { block := go, off := k }), Value.slice (some { block := gj, off := 0 }) (ba.m k) cj, Value.int IntKind.i64 ↑(ba.m k), Value.bool true, u65, u66, Value.pointer (some { block := gy, off := 3 }), Value.slice (some { block := go, off := 0 }) ba.n vc, Value.int IntKind.i64 (k : Int), Value.pointer (some { block := go, off := k }), Value.slice (some { block := gj, off := 0 }) (ba.m k) cj, Value.int IntKind.i64 (g : Int), Value.pointer (some { block := gj, off := g * 3 }), Value.agg #[Value.int IntKind.i64 lt, Value.int IntKind.i64 lo, Value.int IntKind.i64 hi], Value.pointer (some { block := gl, off := 0 }), Value.int IntKind.i64 lt, Value.int IntKind.i64 (A : Int), Value.bool true, (bif d 0 then Value.pointer (some { block := gy, off := 3 }) else u79), (bif d 1 then Value.slice (some { block := go, off := 0 }) ba.n vc else u80), (bif d 2 then Value.int IntKind.i64 ((k : Int)) else u81), (bif d 3 then Value.pointer (some { block := go, off := k }) else u82), (bif d 4 then Value.slice (some { block := gj, off := 0 }) (ba.m k) cj else u83), (bif d 5 then Value.int IntKind.i64 ((g : Int)) else u84), (bif d 6 then Value.pointer (some { block := gl, off := 1 }) else u85), (bif d 7 then Value.pointer (some { block := gl, off := 1 }) else u86), (bif d 8 then Value.int IntKind.i64 (lo) else u87), (bif d 9 then Value.int IntKind.i64 (D) else u88), (bif d 10 then Value.int IntKind.i64 (lo + D) else u89), (bif d 11 then Value.pointer (some { block := gl, off := 1 }) else u90), (bif d 12 then Value.pointer (some { block := gl, off := 2 }) else u91), (bif d 13 then Value.int IntKind.i64 (hi) else u92), (bif d 14 then Value.int IntKind.i64 (D) else u93), (bif d 15 then Value.int IntKind.i64 (hi + D) else u94), (bif d 16 then Value.agg #[Value.int IntKind.i64 (lo + D), Value.int IntKind.i64 (hi + D)] else u95), (bif d 17 then Value.pointer (some { block := gj, off := g * 3 }) else u96), (bif d 18 then Value.pointer (some { block := gj, off := g * 3 + 1 }) else u97), undef, undef, undef, undef, undef, undef, undef, undef, undef, undef, undef, undef, undef, undef, undef, undef, undef, undef, undef, undef, undef, undef, undef, undef, undef, undef, undef, undef, undef, undef, undef, undef, undef, undef, undef, undef, undef, undef, undef, undef, undef, undef, undef, undef, undef, undef, undef, undef, undef, undef, undef, undef, undef, undef, undef, undef, undef, undef, undef, undef, undef], defers := [] } ∧ Hid (MR gj g lo hi D wz (d 19) W)) hmx (by kernel_rfl) ?_ ?_ ?_
                · exact ⟨rfl, MR.start _ _ _ _ _ _⟩
                · refine ⟨?_, ?_, ?_, ?_, ?_, ?_, ?_, ?_, ?_, ?_, ?_, ?_, ?_, ?_, ?_, ?_, ?_, ?_, ?_, ?_, trivial⟩
                  · rintro d a W hdi hdep hcl ⟨rfl, hw⟩ K hK
                    have E := hcl.facts 0 hdi rfl hdep [] [1, 3, 4, 17, 18, 19] (by kernel_rfl) (by kernel_rfl)
                    simp only [AllT, AllF] at E
                    clear hdi hdep hcl
                    go_simp
                    refine hK _ _ ⟨by simp [upd, E], ?_⟩
                    first | exact hw | simpa [upd, E] using hw
                  · rintro d a W hdi hdep hcl ⟨rfl, hw⟩ K hK
                    have E := hcl.facts 1 hdi rfl hdep [0] [3, 4, 17, 18, 19] (by kernel_rfl) (by kernel_rfl)
                    simp only [AllT, AllF] at E
                    clear hdi hdep hcl
                    have hp := hw.out.p (by simp [E])
                    have y3 : W.cell? ⟨gy, 3, none⟩ = some (.slice (some ⟨go, 0, none⟩) ba.n vc) := by rw [cell_of_row W _ _ _ _ _ ((HKj.out.to HZ.out).to hp)]; rfl
                    clear hp
                    go_simp
                    refine hK _ _ ⟨by simp [upd, E], ?_⟩
                    first | exact hw | simpa [upd, E] using hw
                  · rintro d a W hdi hdep hcl ⟨rfl, hw⟩ K hK
                    have E := hcl.facts 2 hdi rfl hdep [] [3, 4, 17, 18, 19] (by kernel_rfl) (by kernel_rfl)
                    simp only [AllT, AllF] at E
                    clear hdi hdep hcl
                    go_simp
                    refine hK _ _ ⟨by simp [upd, E], ?_⟩
                    first | exact hw | simpa [upd, E] using hw
                  · rintro d a W hdi hdep hcl ⟨rfl, hw⟩ K hK
                    have E := hcl.facts 3 hdi rfl hdep [0, 1, 2] [4, 17, 18, 19] (by kernel_rfl) (by kernel_rfl)
                    simp only [AllT, AllF] at E
                    clear hdi hdep hcl
                    go_simp
                    refine hK _ _ ⟨by simp [upd, E], ?_⟩
                    first | exact hw | simpa [upd, E] using hw
                  · rintro d a W hdi hdep hcl ⟨rfl, hw⟩ K hK
                    have E := hcl.facts 4 hdi rfl hdep [0, 1, 2, 3] [17, 18, 19] (by kernel_rfl) (by kernel_rfl)
                    simp only [AllT, AllF] at E
                    clear hdi hdep hcl
                    have hp := hw.out.p (by simp [E])
                    have y4 := ((pcell (HZ.out.trans hp)).1 _ _ HGO2.out).trans HYC.out
                    clear hp
                    go_simp
                    refine hK _ _ ⟨by simp [upd, E], ?_⟩
                    first | exact hw | simpa [upd, E] using hw
                  · rintro d a W hdi hdep hcl ⟨rfl, hw⟩ K hK
                    have E := hcl.facts 5 hdi rfl hdep [] [17, 18, 19] (by kernel_rfl) (by kernel_rfl)
                    simp only [AllT, AllF] at E
                    clear hdi hdep hcl
                    go_simp
                    refine hK _ _ ⟨by simp [upd, E], ?_⟩
                    first | exact hw | simpa [upd, E] using hw
                  · rintro d a W hdi hdep hcl ⟨rfl, hw⟩ K hK
                    have E := hcl.facts 6 hdi rfl hdep [] [7, 8, 10, 16, 17, 18, 19] (by kernel_rfl) (by kernel_rfl)
                    simp only [AllT, AllF] at E
                    clear hdi hdep hcl
                    go_simp
                    refine hK _ _ ⟨by simp [upd, E], ?_⟩
                    first | exact hw | simpa [upd, E] using hw
                  · rintro d a W hdi hdep hcl ⟨rfl, hw⟩ K hK
                    have E := hcl.facts 7 hdi rfl hdep [6] [8, 10, 16, 17, 18, 19] (by kernel_rfl) (by kernel_rfl)
                    simp only [AllT, AllF] at E
                    clear hdi hdep hcl
                    go_simp
                    refine hK _ _ ⟨by simp [upd, E], ?_⟩
                    first | exact hw | simpa [upd, E] using hw
                  · rintro d a W hdi hdep hcl ⟨rfl, hw⟩ K hK
                    have E := hcl.facts 8 hdi rfl hdep [6, 7] [10, 16, 17, 18, 19] (by kernel_rfl) (by kernel_rfl)
                    simp only [AllT, AllF] at E
                    clear hdi hdep hcl
                    have hp := hw.out.p (by simp [E])
                    have y5 : W.cell? ⟨gl, 1, none⟩ = some (.int .i64 lo) := by rw [cell_of_row W _ _ _ _ _ ((hp.block gl hll id).trans HBL.out)]; rfl
                    clear hp
                    go_simp
                    refine hK _ _ ⟨by simp [upd, E], ?_⟩
                    first | exact hw | simpa [upd, E] using hw
                  · rintro d a W hdi hdep hcl ⟨rfl, hw⟩ K hK
                    have E := hcl.facts 9 hdi rfl hdep [] [10, 16, 17, 18, 19] (by kernel_rfl) (by kernel_rfl)
                    simp only [AllT, AllF] at E
                    clear hdi hdep hcl
                    go_simp
                    refine hK _ _ ⟨by simp [upd, E], ?_⟩
                    first | exact hw | simpa [upd, E] using hw
                  · rintro d a W hdi hdep hcl ⟨rfl, hw⟩ K hK
                    have E := hcl.facts 10 hdi rfl hdep [6, 7, 8, 9] [16, 17, 18, 19] (by kernel_rfl) (by kernel_rfl)
                    simp only [AllT, AllF] at E
                    clear hdi hdep hcl
                    have hwx : IntKind.i64.wrap (lo + D) = lo + D := IntWalk.i64_in _ (by omega)
                    go_simp
                    refine hK _ _ ⟨by simp [upd, E], ?_⟩
                    first | exact hw | simpa [upd, E] using hw
                  · rintro d a W hdi hdep hcl ⟨rfl, hw⟩ K hK
                    have E := hcl.facts 11 hdi rfl hdep [] [12, 13, 15, 16, 17, 18, 19] (by kernel_rfl) (by kernel_rfl)
                    simp only [AllT, AllF] at E
                    clear hdi hdep hcl
                    go_simp
                    refine hK _ _ ⟨by simp [upd, E], ?_⟩
                    first | exact hw | simpa [upd, E] using hw
                  · rintro d a W hdi hdep hcl ⟨rfl, hw⟩ K hK
                    have E := hcl.facts 12 hdi rfl hdep [11] [13, 15, 16, 17, 18, 19] (by kernel_rfl) (by kernel_rfl)
                    simp only [AllT, AllF] at E
                    clear hdi hdep hcl
                    go_simp
                    refine hK _ _ ⟨by simp [upd, E], ?_⟩
                    first | exact hw | simpa [upd, E] using hw
                  · rintro d a W hdi hdep hcl ⟨rfl, hw⟩ K hK
                    have E := hcl.facts 13 hdi rfl hdep [11, 12] [15, 16, 17, 18, 19] (by kernel_rfl) (by kernel_rfl)
                    simp only [AllT, AllF] at E
                    clear hdi hdep hcl
                    have hp := hw.out.p (by simp [E])
                    have y5 : W.cell? ⟨gl, 2, none⟩ = some (.int .i64 hi) := by rw [cell_of_row W _ _ _ _ _ ((hp.block gl hll id).trans HBL.out)]; rfl
                    clear hp
                    go_simp
                    refine hK _ _ ⟨by simp [upd, E], ?_⟩
                    first | exact hw | simpa [upd, E] using hw
                  · rintro d a W hdi hdep hcl ⟨rfl, hw⟩ K hK
                    have E := hcl.facts 14 hdi rfl hdep [] [15, 16, 17, 18, 19] (by kernel_rfl) (by kernel_rfl)
                    simp only [AllT, AllF] at E
                    clear hdi hdep hcl
                    go_simp
                    refine hK _ _ ⟨by simp [upd, E], ?_⟩
                    first | exact hw | simpa [upd, E] using hw
                  · rintro d a W hdi hdep hcl ⟨rfl, hw⟩ K hK
                    have E := hcl.facts 15 hdi rfl hdep [11, 12, 13, 14] [16, 17, 18, 19] (by kernel_rfl) (by kernel_rfl)
                    simp only [AllT, AllF] at E
                    clear hdi hdep hcl
                    have hwx : IntKind.i64.wrap (hi + D) = hi + D := IntWalk.i64_in _ (by omega)
                    go_simp
                    refine hK _ _ ⟨by simp [upd, E], ?_⟩
                    first | exact hw | simpa [upd, E] using hw
                  · rintro d a W hdi hdep hcl ⟨rfl, hw⟩ K hK
                    have E := hcl.facts 16 hdi rfl hdep [6, 7, 8, 9, 10, 11, 12, 13, 14, 15] [17, 18, 19] (by kernel_rfl) (by kernel_rfl)
                    simp only [AllT, AllF] at E
                    clear hdi hdep hcl
                    have h := hw.out
                    rw [show d 19 = false by simp [E]] at h
                    go_simp
                    refine (to_any _ _ _).mono ?_
                    rintro e w99 ⟨rfl, hp6⟩
                    exact hK _ _ ⟨by simp [upd, E], by rw [show upd d 16 19 = false by simp [upd, E]]; exact h.to hp6⟩
                  · rintro d a W hdi hdep hcl ⟨rfl, hw⟩ K hK
                    have E := hcl.facts 17 hdi rfl hdep [0, 1, 2, 3, 4, 5, 6, 7, 8, 9, 10, 11, 12, 13, 14, 15, 16] [18, 19] (by kernel_rfl) (by kernel_rfl)
                    simp only [AllT, AllF] at E
                    clear hdi hdep hcl
                    go_simp
                    refine hK _ _ ⟨by simp [upd, E], ?_⟩
                    first | exact hw | simpa [upd, E] using hw
                  · rintro d a W hdi hdep hcl ⟨rfl, hw⟩ K hK
                    have E := hcl.facts 18 hdi rfl hdep [0, 1, 2, 3, 4, 5, 6, 7, 8, 9, 10, 11, 12, 13, 14, 15, 16, 17] [19] (by kernel_rfl) (by kernel_rfl)
                    simp only [AllT, AllF] at E
                    clear hdi hdep hcl
                    go_simp
                    refine hK _ _ ⟨by simp [upd, E], ?_⟩
                    first | exact hw | simpa [upd, E] using hw
                  · rintro d a W hdi hdep hcl ⟨rfl, hw⟩ K hK
                    have E := hcl.facts 19 hdi rfl hdep [0, 1, 2, 3, 4, 5, 6, 7, 8, 9, 10, 11, 12, 13, 14, 15, 16, 17, 18] [] (by kernel_rfl) (by kernel_rfl)
                    simp only [AllT, AllF] at E
                    clear hdi hdep hcl
                    have h := hw.out
                    rw [show d 19 = false by simp [E]] at h
                    have hp := h.p rfl
                    have z2 := ((pcell (HZ.out.trans hp)).1 _ _ HGJL.out).trans HS2.out
                    have z3 := ((pcell (HZ.out.trans hp)).1 _ _ HGJL.out).trans HS3.out
                    have zf : ∀ o, W.frozen? ⟨gj, o, none⟩ = false := fun o => ((pcell (HZ.out.trans hp)).2 _ _ HGJL.out).trans (HFZ.out o)
                    have HH := Lib.hid h.store
                    clear h hp
                    go_simp
                    refine hK _ _ ⟨by simp [upd, E], ?_⟩
                    rw [show upd d 19 19 = true by simp [upd, E]]
                    exact HH.out
                · rintro d a W hall ⟨rfl, hw⟩
                  have E := AllT.all hall [0, 1, 2, 3, 4, 5, 6, 7, 8, 9, 10, 11, 12, 13, 14, 15, 16, 17, 18, 19] (by kernel_rfl)
                  simp only [AllT] at E
                  simp only [E, cond_true] at hw ⊢
                  clear E hall
                  obtain ⟨W0, hp0, hW0⟩ := hw.out.y rfl
                  have HT4 : Hid (SamI w4.heap.size W (.slice (some ⟨go, 0, none⟩) ba.n vc) (ba.mv A D k (g + 1)) ba.n) := by show SamI _ _ _ _ _; rw [hW0]; exact HSAY.out HLA2.out W0 (HZ.out.trans hp0)
                  have HK4 : Hid (BlkAt gy (.cells #[.int .i64 ba.lo, .int .i64 ba.hi, .int .i64 ba.lots, .slice (some ⟨go, 0, none⟩) ba.n vc] 26 (0, 0)) W) := by show _ = _; rw [hW0]; exact (Go.Deep.blk_setCell_other _ _ _ _ hgy).trans ((Go.Deep.blk_setCell_other _ _ _ _ hgy).trans ((HKj.out.to HZ.out).to hp0))
                  have HQ4 : Hid (PureB w4 W) := by show PureB _ _; rw [hW0]; exact ⟨(((HQj.out.to HZ.out).to hp0).p.setCell (p := ⟨gj, g * 3 + 1, none⟩) (fun h => by have h' : gj < w4.heap.size := h; omega) _).setCell (p := ⟨gj, g * 3 + 2, none⟩) (fun h => by have h' : gj < w4.heap.size := h; omega) _⟩
                  clear hw hp0 hW0 W0
                  go_wp2_with fail
                  exact ⟨⟨g + 1, by omega, by push_cast; rfl, HT4.out, HK4.out, HQ4.out⟩, by simp only [intOf]; omega⟩
              · have hlt2 : (ba.t k g).lot ≠ (A : Int) := fun h => hla (HLT.out.symm.trans h)
                have hlb : (lt == (A : Int)) = false := by simpa using hla
                have hsk := mv_skip ba A D k g hlt2
                have HT2 := HTj.out
                rw [hsk] at HT2
                have HT3 := Lib.hid HT2
                clear hla hlt2 hsk HT2
                go_wp2_with fail
                exact ⟨⟨g + 1, by omega, by push_cast; rfl, HT3.out.pure ((Diff.refl _).alloc _), HKj.out.to ((Diff.refl _).alloc _), HQj.out.to ((Diff.refl _).alloc _)⟩, by simp only [intOf]; omega⟩
            · obtain rfl : g = ba.m k := by omega
              have HT2 := Lib.hid (mv_row HTj.out)
              clear hsit hsay hgoc hgo1 hgo2
              go_wp2_with fail
              exact ⟨⟨k + 1, by omega, by push_cast; rfl, HT2.out, HKj.out, HQj.out⟩, by simp only [intOf]; omega⟩
        · obtain rfl : k = ba.n := by omega
          have HOW := Lib.hid (LaO4.out.to HQr.out.p)
          obtain ⟨xa, hxa⟩ : ∃ x, nthI xs A = x := ⟨_, rfl⟩
          have hxr := HXI.out A hAN
          rw [hxa] at hxr
          have HXA := Lib.hid hxa
          have hcl := HOW.out.cell (i := A) (by have := HXL.out; omega)
          rw [hxa] at hcl
          have hfz := fun o => HOW.out.frz o
          have hgys := HOW.out.notBox HKr.out
          have hAi : (A : Int) < N := by omega
          have hA0 : (0 : Int) ≤ A := by omega
          have hgsl := HOW.out.lt
          have hwx : IntKind.i64.wrap (xa + D) = xa + D := IntWalk.i64_in _ (by omega)
          have y0 : wr.cell? ⟨gy, 0, none⟩ = some (.int .i64 ba.lo) := by rw [cell_of_row wr _ _ _ _ _ HKr.out]; rfl
          have y1 : wr.cell? ⟨gy, 1, none⟩ = some (.int .i64 ba.hi) := by rw [cell_of_row wr _ _ _ _ _ HKr.out]; rfl
          have y2 : wr.cell? ⟨gy, 2, none⟩ = some (.int .i64 ba.lots) := by rw [cell_of_row wr _ _ _ _ _ HKr.out]; rfl
          clear hxa
          go_wp2_with fail
          obtain ⟨w5, hwn⟩ : ∃ V, wr.setCell ⟨gs, A, none⟩ (.int .i64 (xa + D)) = V := ⟨_, rfl⟩
          have hp1 : Pure w1 w5 := by rw [← hwn]; exact (HV4.out.p.trans HQr.out.p).setCell (p := ⟨gs, A, none⟩) (fun h => by have h' : gs < w1.heap.size := h; have := HOW.out.row.1; omega) _
          have hPn : Pure w w5 := by rw [← hwn]; exact (hP4.out.trans HQr.out.p).setCell (p := ⟨gs, A, none⟩) (fun h => by have h' : gs < w.heap.size := h; have := HOW.out.row.1; have := HPW1.out.size; omega) _
          have hP5 : Hid (Pure w w5) := hPn
          have HG5 := Lib.hid (HGK.out.to hp1)
          have hgs4 : gs < w4.heap.size := LaO4.out.lt
          have HT5 : Hid (SamI w4.heap.size w5 (.slice vq ba.n vc) (ba.mv A D ba.n 0) ba.n) := by show SamI _ _ _ _ _; rw [← hwn]; exact HTr.out.set hgs4 A _
          have HK5 : Hid (BlkAt gy (.cells #[.int .i64 ba.lo, .int .i64 ba.hi, .int .i64 ba.lots, .slice vq ba.n vc] 26 (0, 0)) w5) := by show _ = _; rw [← hwn]; exact (Go.Deep.blk_setCell_other _ _ _ _ hgys).trans HKr.out
          have HL5 : Hid (OwnL w1.heap.size gs cs (xs.set A (nthI xs A + D)) w5) := by show OwnL _ _ _ _ _; rw [← hwn, HXA.out]; exact HOW.out.set A _
          have HLT5 : Hid (SlI w5.heap.size w5 (.slice Lar ys.length Lae) ys) := by show SlI _ _ _ _; rw [← hwn]; exact (LaT4.out.to HQr.out.p).off (by have := HAP.out; rw [HYS.out] at this; exact this)
          have HR5 : Hid (BookAt w5.heap.size w5 vq (ba.mv A D ba.n 0)) := SamI.book (B := w4.heap.size) (c := vc) HT5.out
          rw [hwn]
          refine (fine_any w5 (ba.mv A D ba.n 0) vq vc HR5.out).mono ?_
          rintro e wf ⟨rfl, hp⟩
          obtain ⟨bm, hbm⟩ : ∃ x, ba.mv A D ba.n 0 = x := ⟨_, rfl⟩
          have HBM := Lib.hid hbm
          rw [hbm] at HR5 ⊢
          have HY5 : Hid (BoxB gy bm vq vc w5) := by show BoxB _ _ _ _ _; rw [← hbm]; exact BoxB.of (T := 26) HK5.out
          have hlenx : (xs.set A (nthI xs A + D)).length = N := by rw [List.length_set]; exact HXL.out
          have HLEN := Lib.hid hlenx
          clear hwn hp1 hPn hgs4 HT5 HK5 hbm hlenx HTr HKr HQr HOW hcl hfz hgys hgsl y0 y1 y2 y3 hwx hA0 hk0
          obtain ⟨w6, hwf⟩ : ∃ v, wf = v := ⟨_, rfl⟩
          rw [hwf] at hp ⊢
          clear hwf wf
          have hP6 : Hid (Pure w w6) := hP5.out.trans hp
          have HY6 := Lib.hid (HY5.out.pure hp)
          have HG6 := Lib.hid (HG5.out.to hp)
          have HR6 := Lib.hid (HR5.out.to hp)
          have HL6 := Lib.hid (HL5.out.to hp)
          have HLT6 := Lib.hid (HLT5.out.to hp)
          clear hp hP5 HY5 HG5 HR5 HL5 HLT5
          obtain ⟨zy0, zy1, zy2, zy3, zyl⟩ := HY6.out
          have hcv : w6.cell? ⟨gs, A, none⟩ = some (.int .i64 (xa + D)) := by have := HL6.out.cell (i := A) (by have := HLEN.out; omega); rw [nthI_set _ _ _ (by have := HXL.out; omega), if_pos rfl, HXA.out] at this; exact this
          obtain ⟨v, hvv⟩ : ∃ x, xa + D = x := ⟨_, rfl⟩
          rw [hvv] at hcv ⊢
          have HVV := Lib.hid hvv
          have hA0 : (0 : Int) ≤ A := by omega
          clear hvv
          cases hfm : fineB bm with
          | false =>
            go_wp2_with fail
            refine (Works_any w6 HG6.out).mono ?_
            rintro e w7 ⟨rfl, hp⟩
            have hP7 : Hid (Pure w w7) := hP6.out.trans hp
            have HY7 := Lib.hid (HY6.out.pure hp)
            have HG7 := Lib.hid (HG6.out.to hp)
            have HR7 := Lib.hid (HR6.out.to hp)
            have HL7 := Lib.hid (HL6.out.to hp)
            have HLT7 := Lib.hid (HLT6.out.to hp)
            clear hp hP6 HY6 zy0 zy1 zy2 zy3 zyl HG6 HR6 HL6 HLT6
            obtain ⟨zy0, zy1, zy2, zy3, zyl⟩ := HY7.out
            go_wp2_with fail
            exact bodyPost_ret (v := .bool true) (by simp [results, Tryd.results15, go_sem]) rfl ⟨rfl, hP7.out⟩
          | true =>
            obtain ⟨hsbm, hckm⟩ := fineB_iff.1 hfm
            have HSM := Lib.hid hsbm
            have HCM := Lib.hid hckm
            clear hsbm hckm hfm
            by_cases hv0 : v < 0
            · go_wp2_with fail
              refine (Works_any w6 HG6.out).mono ?_
              rintro e w7 ⟨rfl, hp⟩
              have hP7 : Hid (Pure w w7) := hP6.out.trans hp
              have HY7 := Lib.hid (HY6.out.pure hp)
              have HG7 := Lib.hid (HG6.out.to hp)
              have HR7 := Lib.hid (HR6.out.to hp)
              have HL7 := Lib.hid (HL6.out.to hp)
              have HLT7 := Lib.hid (HLT6.out.to hp)
              clear hp hP6 HY6 zy0 zy1 zy2 zy3 zyl HG6 HR6 HL6 HLT6
              obtain ⟨zy0, zy1, zy2, zy3, zyl⟩ := HY7.out
              go_wp2_with fail
              exact bodyPost_ret (v := .bool true) (by simp [results, Tryd.results15, go_sem]) rfl ⟨rfl, hP7.out⟩
            · by_cases hv1 : 1000 < v
              · go_wp2_with fail
                refine (Works_any w6 HG6.out).mono ?_
                rintro e w7 ⟨rfl, hp⟩
                have hP7 : Hid (Pure w w7) := hP6.out.trans hp
                have HY7 := Lib.hid (HY6.out.pure hp)
                have HG7 := Lib.hid (HG6.out.to hp)
                have HR7 := Lib.hid (HR6.out.to hp)
                have HL7 := Lib.hid (HL6.out.to hp)
                have HLT7 := Lib.hid (HLT6.out.to hp)
                clear hp hP6 HY6 zy0 zy1 zy2 zy3 zyl HG6 HR6 HL6 HLT6
                obtain ⟨zy0, zy1, zy2, zy3, zyl⟩ := HY7.out
                go_wp2_with fail
                exact bodyPost_ret (v := .bool true) (by simp [results, Tryd.results15, go_sem]) rfl ⟨rfl, hP7.out⟩
              · obtain ⟨t1, t2, sl, sh, t3, t4, t5⟩ := moved_facts hv HEba.out HBM.out HCM.out HLN.out HMM.out hAN (by rw [HXS.out, HXA.out, HVV.out]; omega) (by rw [HXS.out, HXA.out, HVV.out]; omega)
                rw [HXS.out, HXA.out, HVV.out] at t4 t5
                rw [HXS.out, HYS.out] at t1
                have HT1 := Lib.hid t1
                have HT2 := Lib.hid t2
                have HT3 := Lib.hid t3
                clear t1 t2 t3
                go_wp2_with fail
                refine (Span_any w6 bm vq vc A HSM.out HR6.out HG6.out).mono ?_
                rintro e w7 ⟨rfl, hp⟩
                rw [HT2.out, Int.toNat_natCast, HT3.out]
                clear hcv
                have hP7 : Hid (Pure w w7) := hP6.out.trans hp
                have HY7 := Lib.hid (HY6.out.pure hp)
                have HG7 := Lib.hid (HG6.out.to hp)
                have HR7 := Lib.hid (HR6.out.to hp)
                have HL7 := Lib.hid (HL6.out.to hp)
                have HLT7 := Lib.hid (HLT6.out.to hp)
                clear hp hP6 HY6 zy0 zy1 zy2 zy3 zyl HG6 HR6 HL6 HLT6
                obtain ⟨zy0, zy1, zy2, zy3, zyl⟩ := HY7.out
                go_wp2_with fail
                obtain ⟨w8, hw8⟩ : ∃ v, w7.alloc (.cells #[.int .i64 sl, .int .i64 sh] 23) = v := ⟨_, rfl⟩
                have hp : Pure w7 w8 := by rw [← hw8]; exact (Diff.refl _).alloc _
                have hx : RgAt w7.heap.size sl sh w8 := by rw [← hw8]; exact RgAt.new _ _ _
                obtain ⟨gt, hgt⟩ : ∃ g, w7.heap.size = g := ⟨_, rfl⟩
                rw [hw8]
                rw [hgt] at hx ⊢
                clear hw8 hgt
                clear zy0 zy1 zy2 zy3 zyl
                have hP8 : Hid (Pure w w8) := hP7.out.trans hp
                have HY8 := Lib.hid (HY7.out.pure hp)
                have HG8 := Lib.hid (HG7.out.to hp)
                have HR8 := Lib.hid (HR7.out.to hp)
                have HL8 := Lib.hid (HL7.out.to hp)
                have HLT8 := Lib.hid (HLT7.out.to hp)
                have HRT8 := Lib.hid (hx)
                clear hp hP7 HY7 HG7 HR7 HL7 HLT7
                clear hx
                refine reg_invW (fun d a W => a = { tmps := #[bookV b p cap, Value.slice q1 n1 c1, Value.int IntKind.u8 x2, Value.int IntKind.i16 x3, Value.pointer (some { block := g0, off := 0 }), undef, undef, undef, (bif d 30 then Value.bool true else Value.bool false), Value.pointer (some { block := g3, off := 0 }), Value.slice (some { block := gs, off := 0 }) N cs, Value.slice Lar ys.length Lae, Value.int IntKind.i64 (A : Int), Value.int IntKind.i64 D, Value.pointer (some { block := gy, off := 0 }), Value.int IntKind.i64 (ba.n : Int), u16, u17, Value.pointer (some { block := gt, off := 0 }), Value.int IntKind.i64 0, Value.agg #[Value.int IntKind.i64 b.lo, Value.int IntKind.i64 b.hi, Value.int IntKind.i64 b.lots, Value.slice p b.n cap], Value.bool true, Value.bool false, Value.bool false, Value.slice q1 n1 c1, Value.int IntKind.i64 (n1 : Int), Value.bool (decide (30 < (n1 : Int))), Value.bool (decide (30 < (n1 : Int))), undef, Value.tuple #[bookV ba bap bac, Value.slice (some { block := gs, off := 0 }) N cs, Value.slice Lar ys.length Lae], Value.agg #[Value.int IntKind.i64 b.lo, Value.int IntKind.i64 b.hi, Value.int IntKind.i64 b.lots, Value.slice p b.n cap], Value.slice q1 n1 c1, Value.tuple #[bookV ba bap bac, Value.slice (some { block := gs, off := 0 }) N cs, Value.slice Lar ys.length Lae], bookV ba bap bac, Value.slice (some { block := gs, off := 0 }) N cs, Value.slice Lar ys.length Lae, Value.agg #[Value.int IntKind.i64 ba.lo, Value.int IntKind.i64 ba.hi, Value.int IntKind.i64 ba.lots, Value.slice bap ba.n bac], Value.bool true, Value.bool false, undef, Value.int IntKind.u8 x2, Value.int IntKind.i64 x2, Value.pointer (some { block := g0, off := 2 }), Value.int IntKind.i64 b.lots, Value.int IntKind.i64 (A : Int), Value.int IntKind.i16 x3, Value.int IntKind.i64 x3, Value.int IntKind.i64 D, Value.agg #[Value.int IntKind.i64 ba.lo, Value.int IntKind.i64 ba.hi, Value.int IntKind.i64 ba.lots, Value.slice bap ba.n bac], Value.agg #[Value.int IntKind.i64 ba.lo, Value.int IntKind.i64 ba.hi, Value.int IntKind.i64 ba.lots, Value.slice vq ba.n vc], Value.int IntKind.i64 (ba.n : Int), Value.pointer (some { block := gy, off := 3 }), Value.slice vq ba.n vc, Value.int IntKind.i64 (ba.n : Int), Value.bool false, u55, u56, u57, u58, u59, u60, u61, u62, u63, u64, u65, u66, u67, u68, u69, u70, u71, u72, u73, u74, u75, u76, u77, u78, u79, u80, u81, u82, u83, u84, u85, u86, u87, u88, u89, u90, u91, u92, u93, u94, u95, u96, u97, Value.slice (some { block := gs, off := 0 }) N cs, Value.int IntKind.i64 (A : Int), Value.pointer (some { block := gs, off := A }), Value.int IntKind.i64 xa, Value.int IntKind.i64 D, Value.int IntKind.i64 v, Value.pointer (some { block := gs, off := A }), Value.agg #[Value.int IntKind.i64 ba.lo, Value.int IntKind.i64 ba.hi, Value.int IntKind.i64 ba.lots, Value.slice vq ba.n vc], Value.bool true, Value.bool false, Value.bool false, Value.slice (some { block := gs, off := 0 }) N cs, Value.int IntKind.i64 (A : Int), Value.pointer (some { block := gs, off := A }), Value.int IntKind.i64 v, Value.bool (decide (v < 0)), Value.bool (decide (v < 0)), Value.bool (decide (v < 0)), Value.slice (some { block := gs, off := 0 }) N cs, Value.int IntKind.i64 (A : Int), Value.pointer (some { block := gs, off := A }), Value.int IntKind.i64 v, Value.bool (decide (1000 < v)), Value.bool (decide (v < 0) || decide (1000 < v)), undef, Value.tuple #[Value.agg #[Value.int IntKind.i64 sl, Value.int IntKind.i64 sh], Value.int IntKind.i64 0], Value.agg #[Value.int IntKind.i64 bm.lo, Value.int IntKind.i64 bm.hi, Value.int IntKind.i64 bm.lots, Value.slice vq bm.n vc], Value.int IntKind.i64 (A : Int), Value.tuple #[Value.agg #[Value.int IntKind.i64 sl, Value.int IntKind.i64 sh], Value.int IntKind.i64 0], Value.agg #[Value.int IntKind.i64 sl, Value.int IntKind.i64 sh], Value.int IntKind.i64 0, (bif d 0 then Value.agg #[Value.int IntKind.i64 bm.lo, Value.int IntKind.i64 bm.hi, Value.int IntKind.i64 bm.lots, Value.slice vq bm.n vc] else undef), (bif d 1 then Value.slice (some { block := gs, off := 0 }) N cs else undef), (bif d 2 then Value.slice Lar ys.length Lae else undef), (bif d 3 then Value.int IntKind.i64 (0) else undef), (bif d 4 then Value.bool true else undef), (bif d 5 then Value.bool true else undef), (bif d 6 then Value.int IntKind.i64 (0) else undef), (bif d 7 then Value.bool true else undef), (bif d 8 then Value.bool true else undef), (bif d 9 then Value.bool true else undef), (bif d 10 then Value.pointer (some { block := gt, off := 0 }) else undef), (bif d 11 then Value.int IntKind.i64 (sl) else undef), (bif d 12 then Value.slice (some { block := gs, off := 0 }) N cs else undef), (bif d 13 then Value.int IntKind.i64 ((A : Int)) else undef), (bif d 14 then Value.pointer (some { block := gs, off := A }) else undef), (bif d 15 then Value.int IntKind.i64 (v) else undef), (bif d 16 then Value.bool true else undef), (bif d 17 then Value.bool true else undef), (bif d 18 then Value.bool true else undef), (bif d 19 then Value.slice (some { block := gs, off := 0 }) N cs else undef), (bif d 20 then Value.int IntKind.i64 ((A : Int)) else undef), (bif d 21 then Value.pointer (some { block := gs, off := A }) else undef), (bif d 22 then Value.int IntKind.i64 (v) else undef), (bif d 23 then Value.pointer (some { block := gt, off := 1 }) else undef), (bif d 24 then Value.int IntKind.i64 (sh) else undef), (bif d 25 then Value.bool true else undef), (bif d 26 then Value.bool true else undef), (bif d 27 then Value.bool true else undef), (bif d 28 then Value.bool true else undef), (bif d 29 then Value.bool true else undef)], defers := [] } ∧ Hid (Pure w8 W)) hmx (by kernel_rfl) ?_ ?_ ?_
                · exact ⟨rfl, (Diff.refl w8).drew⟩
                · refine ⟨?_, ?_, ?_, ?_, ?_, ?_, ?_, ?_, ?_, ?_, ?_, ?_, ?_, ?_, ?_, ?_, ?_, ?_, ?_, ?_, ?_, ?_, ?_, ?_, ?_, ?_, ?_, ?_, ?_, ?_, ?_, trivial⟩
                  · rintro d a W hdi hdep hcl ⟨rfl, hw⟩ K hK
                    have E := hcl.facts 0 hdi rfl hdep [] [3, 4, 5, 6, 7, 8, 9, 10, 11, 12, 13, 14, 15, 16, 17, 18, 19, 20, 21, 22, 23, 24, 25, 26, 27, 28, 29, 30] (by kernel_rfl) (by kernel_rfl)
                    simp only [AllT, AllF] at E
                    clear hdi hdep hcl
                    obtain ⟨zy0, zy1, zy2, zy3, zyl⟩ := HY8.out.pure hw.out
                    go_simp
                    exact hK _ _ ⟨by simp [upd, E, t4, t5], hw⟩
                  · rintro d a W hdi hdep hcl ⟨rfl, hw⟩ K hK
                    have E := hcl.facts 1 hdi rfl hdep [] [3, 4, 5, 6, 7, 8, 9, 10, 11, 12, 13, 14, 15, 16, 17, 18, 19, 20, 21, 22, 23, 24, 25, 26, 27, 28, 29, 30] (by kernel_rfl) (by kernel_rfl)
                    simp only [AllT, AllF] at E
                    clear hdi hdep hcl
                    go_simp
                    exact hK _ _ ⟨by simp [upd, E, t4, t5], hw⟩
                  · rintro d a W hdi hdep hcl ⟨rfl, hw⟩ K hK
                    have E := hcl.facts 2 hdi rfl hdep [] [3, 4, 5, 6, 7, 8, 9, 10, 11, 12, 13, 14, 15, 16, 17, 18, 19, 20, 21, 22, 23, 24, 25, 26, 27, 28, 29, 30] (by kernel_rfl) (by kernel_rfl)
                    simp only [AllT, AllF] at E
                    clear hdi hdep hcl
                    go_simp
                    exact hK _ _ ⟨by simp [upd, E, t4, t5], hw⟩
                  · rintro d a W hdi hdep hcl ⟨rfl, hw⟩ K hK
                    have E := hcl.facts 3 hdi rfl hdep [0, 1, 2] [4, 5, 6, 7, 8, 9, 10, 11, 12, 13, 14, 15, 16, 17, 18, 19, 20, 21, 22, 23, 24, 25, 26, 27, 28, 29, 30] (by kernel_rfl) (by kernel_rfl)
                    simp only [AllT, AllF] at E
                    clear hdi hdep hcl
                    go_simp
                    refine (CheckTruth_any W bm vq vc _ _ (xs.set A (nthI xs A + D)) ys HSM.out (HR8.out.to hw.out) (HG8.out.to hw.out) (by have := (HL8.out.to hw.out).sl; rw [HLEN.out] at this; exact this) (HLT8.out.to hw.out)).mono ?_
                    rintro e w99 ⟨rfl, hp6⟩
                    rw [HT1.out]
                    exact hK _ _ ⟨by simp [upd, E], hw.out.trans hp6⟩
                  · rintro d a W hdi hdep hcl ⟨rfl, hw⟩ K hK
                    have E := hcl.facts 4 hdi rfl hdep [0, 1, 2, 3] [5, 6, 7, 8, 9, 10, 11, 12, 13, 14, 15, 16, 17, 18, 19, 20, 21, 22, 23, 24, 25, 26, 27, 28, 29, 30] (by kernel_rfl) (by kernel_rfl)
                    simp only [AllT, AllF] at E
                    clear hdi hdep hcl
                    go_simp
                    exact hK _ _ ⟨by simp [upd, E, t4, t5], hw⟩
                  · rintro d a W hdi hdep hcl ⟨rfl, hw⟩ K hK
                    have E := hcl.facts 5 hdi rfl hdep [0, 1, 2, 3, 4] [6, 7, 8, 9, 10, 11, 12, 13, 14, 15, 16, 17, 18, 19, 20, 21, 22, 23, 24, 25, 26, 27, 28, 29, 30] (by kernel_rfl) (by kernel_rfl)
                    simp only [AllT, AllF] at E
                    clear hdi hdep hcl
                    go_simp
                    exact hK _ _ ⟨by simp [upd, E, t4, t5], hw⟩
                  · rintro d a W hdi hdep hcl ⟨rfl, hw⟩ K hK
                    have E := hcl.facts 6 hdi rfl hdep [0, 1, 2, 3, 4, 5] [7, 8, 9, 10, 11, 12, 13, 14, 15, 16, 17, 18, 19, 20, 21, 22, 23, 24, 25, 26, 27, 28, 29, 30] (by kernel_rfl) (by kernel_rfl)
                    simp only [AllT, AllF] at E
                    clear hdi hdep hcl
                    go_simp
                    exact hK _ _ ⟨by simp [upd, E, t4, t5], hw⟩
                  · rintro d a W hdi hdep hcl ⟨rfl, hw⟩ K hK
                    have E := hcl.facts 7 hdi rfl hdep [0, 1, 2, 3, 4, 5, 6] [8, 9, 10, 11, 12, 13, 14, 15, 16, 17, 18, 19, 20, 21, 22, 23, 24, 25, 26, 27, 28, 29, 30] (by kernel_rfl) (by kernel_rfl)
                    simp only [AllT, AllF] at E
                    clear hdi hdep hcl
                    go_simp
                    exact hK _ _ ⟨by simp [upd, E, t4, t5], hw⟩
                  · rintro d a W hdi hdep hcl ⟨rfl, hw⟩ K hK
                    have E := hcl.facts 8 hdi rfl hdep [0, 1, 2, 3, 4, 5, 6, 7] [9, 10, 11, 12, 13, 14, 15, 16, 17, 18, 19, 20, 21, 22, 23, 24, 25, 26, 27, 28, 29, 30] (by kernel_rfl) (by kernel_rfl)
                    simp only [AllT, AllF] at E
                    clear hdi hdep hcl
                    go_simp
                    exact hK _ _ ⟨by simp [upd, E, t4, t5], hw⟩
                  · rintro d a W hdi hdep hcl ⟨rfl, hw⟩ K hK
                    have E := hcl.facts 9 hdi rfl hdep [0, 1, 2, 3, 4, 5, 6, 7, 8] [10, 11, 12, 13, 14, 15, 16, 17, 18, 19, 20, 21, 22, 23, 24, 25, 26, 27, 28, 29, 30] (by kernel_rfl) (by kernel_rfl)
                    simp only [AllT, AllF] at E
                    clear hdi hdep hcl
                    go_simp
                    exact hK _ _ ⟨by simp [upd, E, t4, t5], hw⟩
                  · rintro d a W hdi hdep hcl ⟨rfl, hw⟩ K hK
                    have E := hcl.facts 10 hdi rfl hdep [0, 1, 2, 3, 4, 5, 6, 7, 8, 9] [11, 16, 17, 18, 19, 20, 21, 22, 23, 24, 25, 26, 27, 28, 29, 30] (by kernel_rfl) (by kernel_rfl)
                    simp only [AllT, AllF] at E
                    clear hdi hdep hcl
                    go_simp
                    exact hK _ _ ⟨by simp [upd, E, t4, t5], hw⟩
                  · rintro d a W hdi hdep hcl ⟨rfl, hw⟩ K hK
                    have E := hcl.facts 11 hdi rfl hdep [0, 1, 2, 3, 4, 5, 6, 7, 8, 9, 10] [16, 17, 18, 19, 20, 21, 22, 23, 24, 25, 26, 27, 28, 29, 30] (by kernel_rfl) (by kernel_rfl)
                    simp only [AllT, AllF] at E
                    clear hdi hdep hcl
                    have r0 := (HRT8.out.to hw.out).c0
                    go_simp
                    exact hK _ _ ⟨by simp [upd, E, t4, t5], hw⟩
                  · rintro d a W hdi hdep hcl ⟨rfl, hw⟩ K hK
                    have E := hcl.facts 12 hdi rfl hdep [0, 1, 2, 3, 4, 5, 6, 7, 8, 9] [14, 15, 16, 17, 18, 19, 20, 21, 22, 23, 24, 25, 26, 27, 28, 29, 30] (by kernel_rfl) (by kernel_rfl)
                    simp only [AllT, AllF] at E
                    clear hdi hdep hcl
                    go_simp
                    exact hK _ _ ⟨by simp [upd, E, t4, t5], hw⟩
                  · rintro d a W hdi hdep hcl ⟨rfl, hw⟩ K hK
                    have E := hcl.facts 13 hdi rfl hdep [0, 1, 2, 3, 4, 5, 6, 7, 8, 9] [14, 15, 16, 17, 18, 19, 20, 21, 22, 23, 24, 25, 26, 27, 28, 29, 30] (by kernel_rfl) (by kernel_rfl)
                    simp only [AllT, AllF] at E
                    clear hdi hdep hcl
                    go_simp
                    exact hK _ _ ⟨by simp [upd, E, t4, t5], hw⟩
                  · rintro d a W hdi hdep hcl ⟨rfl, hw⟩ K hK
                    have E := hcl.facts 14 hdi rfl hdep [0, 1, 2, 3, 4, 5, 6, 7, 8, 9, 12, 13] [15, 16, 17, 18, 19, 20, 21, 22, 23, 24, 25, 26, 27, 28, 29, 30] (by kernel_rfl) (by kernel_rfl)
                    simp only [AllT, AllF] at E
                    clear hdi hdep hcl
                    go_simp
                    exact hK _ _ ⟨by simp [upd, E, t4, t5], hw⟩
                  · rintro d a W hdi hdep hcl ⟨rfl, hw⟩ K hK
                    have E := hcl.facts 15 hdi rfl hdep [0, 1, 2, 3, 4, 5, 6, 7, 8, 9, 12, 13, 14] [16, 17, 18, 19, 20, 21, 22, 23, 24, 25, 26, 27, 28, 29, 30] (by kernel_rfl) (by kernel_rfl)
                    simp only [AllT, AllF] at E
                    clear hdi hdep hcl
                    have hcv := (HL8.out.to hw.out).cell (i := A) (by have := HLEN.out; omega)
                    rw [nthI_set _ _ _ (by have := HXL.out; omega), if_pos rfl, HXA.out, HVV.out] at hcv
                    go_simp
                    exact hK _ _ ⟨by simp [upd, E, t4, t5], hw⟩
                  · rintro d a W hdi hdep hcl ⟨rfl, hw⟩ K hK
                    have E := hcl.facts 16 hdi rfl hdep [0, 1, 2, 3, 4, 5, 6, 7, 8, 9, 10, 11, 12, 13, 14, 15] [17, 18, 19, 20, 21, 22, 23, 24, 25, 26, 27, 28, 29, 30] (by kernel_rfl) (by kernel_rfl)
                    simp only [AllT, AllF] at E
                    clear hdi hdep hcl
                    go_simp
                    exact hK _ _ ⟨by simp [upd, E, t4, t5], hw⟩
                  · rintro d a W hdi hdep hcl ⟨rfl, hw⟩ K hK
                    have E := hcl.facts 17 hdi rfl hdep [0, 1, 2, 3, 4, 5, 6, 7, 8, 9, 10, 11, 12, 13, 14, 15, 16] [18, 19, 20, 21, 22, 23, 24, 25, 26, 27, 28, 29, 30] (by kernel_rfl) (by kernel_rfl)
                    simp only [AllT, AllF] at E
                    clear hdi hdep hcl
                    go_simp
                    exact hK _ _ ⟨by simp [upd, E, t4, t5], hw⟩
                  · rintro d a W hdi hdep hcl ⟨rfl, hw⟩ K hK
                    have E := hcl.facts 18 hdi rfl hdep [0, 1, 2, 3, 4, 5, 6, 7, 8, 9, 10, 11, 12, 13, 14, 15, 16, 17] [19, 20, 21, 22, 23, 24, 25, 26, 27, 28, 29, 30] (by kernel_rfl) (by kernel_rfl)
                    simp only [AllT, AllF] at E
                    clear hdi hdep hcl
                    go_simp
                    exact hK _ _ ⟨by simp [upd, E, t4, t5], hw⟩
                  · rintro d a W hdi hdep hcl ⟨rfl, hw⟩ K hK
                    have E := hcl.facts 19 hdi rfl hdep [0, 1, 2, 3, 4, 5, 6, 7, 8, 9, 10, 11, 12, 13, 14, 15, 16, 17, 18] [21, 22, 25, 26, 27, 28, 29, 30] (by kernel_rfl) (by kernel_rfl)
                    simp only [AllT, AllF] at E
                    clear hdi hdep hcl
                    go_simp
                    exact hK _ _ ⟨by simp [upd, E, t4, t5], hw⟩
                  · rintro d a W hdi hdep hcl ⟨rfl, hw⟩ K hK
                    have E := hcl.facts 20 hdi rfl hdep [0, 1, 2, 3, 4, 5, 6, 7, 8, 9, 10, 11, 12, 13, 14, 15, 16, 17, 18] [21, 22, 25, 26, 27, 28, 29, 30] (by kernel_rfl) (by kernel_rfl)
                    simp only [AllT, AllF] at E
                    clear hdi hdep hcl
                    go_simp
                    exact hK _ _ ⟨by simp [upd, E, t4, t5], hw⟩
                  · rintro d a W hdi hdep hcl ⟨rfl, hw⟩ K hK
                    have E := hcl.facts 21 hdi rfl hdep [0, 1, 2, 3, 4, 5, 6, 7, 8, 9, 10, 11, 12, 13, 14, 15, 16, 17, 18, 19, 20] [22, 25, 26, 27, 28, 29, 30] (by kernel_rfl) (by kernel_rfl)
                    simp only [AllT, AllF] at E
                    clear hdi hdep hcl
                    go_simp
                    exact hK _ _ ⟨by simp [upd, E, t4, t5], hw⟩
                  · rintro d a W hdi hdep hcl ⟨rfl, hw⟩ K hK
                    have E := hcl.facts 22 hdi rfl hdep [0, 1, 2, 3, 4, 5, 6, 7, 8, 9, 10, 11, 12, 13, 14, 15, 16, 17, 18, 19, 20, 21] [25, 26, 27, 28, 29, 30] (by kernel_rfl) (by kernel_rfl)
                    simp only [AllT, AllF] at E
                    clear hdi hdep hcl
                    have hcv := (HL8.out.to hw.out).cell (i := A) (by have := HLEN.out; omega)
                    rw [nthI_set _ _ _ (by have := HXL.out; omega), if_pos rfl, HXA.out, HVV.out] at hcv
                    go_simp
                    exact hK _ _ ⟨by simp [upd, E, t4, t5], hw⟩
                  · rintro d a W hdi hdep hcl ⟨rfl, hw⟩ K hK
                    have E := hcl.facts 23 hdi rfl hdep [0, 1, 2, 3, 4, 5, 6, 7, 8, 9, 10, 11, 12, 13, 14, 15, 16, 17, 18] [24, 25, 26, 27, 28, 29, 30] (by kernel_rfl) (by kernel_rfl)
                    simp only [AllT, AllF] at E
                    clear hdi hdep hcl
                    go_simp
                    exact hK _ _ ⟨by simp [upd, E, t4, t5], hw⟩
                  · rintro d a W hdi hdep hcl ⟨rfl, hw⟩ K hK
                    have E := hcl.facts 24 hdi rfl hdep [0, 1, 2, 3, 4, 5, 6, 7, 8, 9, 10, 11, 12, 13, 14, 15, 16, 17, 18, 23] [25, 26, 27, 28, 29, 30] (by kernel_rfl) (by kernel_rfl)
                    simp only [AllT, AllF] at E
                    clear hdi hdep hcl
                    have r0 := (HRT8.out.to hw.out).c1
                    go_simp
                    exact hK _ _ ⟨by simp [upd, E, t4, t5], hw⟩
                  · rintro d a W hdi hdep hcl ⟨rfl, hw⟩ K hK
                    have E := hcl.facts 25 hdi rfl hdep [0, 1, 2, 3, 4, 5, 6, 7, 8, 9, 10, 11, 12, 13, 14, 15, 16, 17, 18, 19, 20, 21, 22, 23, 24] [26, 27, 28, 29, 30] (by kernel_rfl) (by kernel_rfl)
                    simp only [AllT, AllF] at E
                    clear hdi hdep hcl
                    go_simp
                    exact hK _ _ ⟨by simp [upd, E, t4, t5], hw⟩
                  · rintro d a W hdi hdep hcl ⟨rfl, hw⟩ K hK
                    have E := hcl.facts 26 hdi rfl hdep [0, 1, 2, 3, 4, 5, 6, 7, 8, 9, 10, 11, 12, 13, 14, 15, 16, 17, 18, 19, 20, 21, 22, 23, 24, 25] [27, 28, 29, 30] (by kernel_rfl) (by kernel_rfl)
                    simp only [AllT, AllF] at E
                    clear hdi hdep hcl
                    go_simp
                    exact hK _ _ ⟨by simp [upd, E, t4, t5], hw⟩
                  · rintro d a W hdi hdep hcl ⟨rfl, hw⟩ K hK
                    have E := hcl.facts 27 hdi rfl hdep [0, 1, 2, 3, 4, 5, 6, 7, 8, 9, 10, 11, 12, 13, 14, 15, 16, 17, 18, 19, 20, 21, 22, 23, 24, 25, 26] [28, 29, 30] (by kernel_rfl) (by kernel_rfl)
                    simp only [AllT, AllF] at E
                    clear hdi hdep hcl
                    go_simp
                    exact hK _ _ ⟨by simp [upd, E, t4, t5], hw⟩
                  · rintro d a W hdi hdep hcl ⟨rfl, hw⟩ K hK
                    have E := hcl.facts 28 hdi rfl hdep [0, 1, 2, 3, 4, 5, 6, 7, 8, 9, 10, 11, 12, 13, 14, 15, 16, 17, 18, 19, 20, 21, 22, 23, 24, 25, 26, 27] [29, 30] (by kernel_rfl) (by kernel_rfl)
                    simp only [AllT, AllF] at E
                    clear hdi hdep hcl
                    go_simp
                    refine (Works_any W (HG8.out.to hw.out)).mono ?_
                    rintro e w99 ⟨rfl, hp6⟩
                    exact hK _ _ ⟨by simp [upd, E], hw.out.trans hp6⟩
                  · rintro d a W hdi hdep hcl ⟨rfl, hw⟩ K hK
                    have E := hcl.facts 29 hdi rfl hdep [0, 1, 2, 3, 4, 5, 6, 7, 8, 9, 10, 11, 12, 13, 14, 15, 16, 17, 18, 19, 20, 21, 22, 23, 24, 25, 26, 27, 28] [30] (by kernel_rfl) (by kernel_rfl)
                    simp only [AllT, AllF] at E
                    clear hdi hdep hcl
                    go_simp
                    exact hK _ _ ⟨by simp [upd, E, t4, t5], hw⟩
                  · rintro d a W hdi hdep hcl ⟨rfl, hw⟩ K hK
                    have E := hcl.facts 30 hdi rfl hdep [0, 1, 2, 3, 4, 5, 6, 7, 8, 9, 10, 11, 12, 13, 14, 15, 16, 17, 18, 19, 20, 21, 22, 23, 24, 25, 26, 27, 28, 29] [] (by kernel_rfl) (by kernel_rfl)
                    simp only [AllT, AllF] at E
                    clear hdi hdep hcl
                    go_simp
                    exact hK _ _ ⟨by simp [upd, E, t4, t5], hw⟩
                · rintro d a W hall ⟨rfl, hw⟩
                  have E := AllT.all hall [0, 1, 2, 3, 4, 5, 6, 7, 8, 9, 10, 11, 12, 13, 14, 15, 16, 17, 18, 19, 20, 21, 22, 23, 24, 25, 26, 27, 28, 29, 30] (by kernel_rfl)
                  simp only [AllT] at E
                  simp only [E, cond_true] at hw ⊢
                  clear E hall
                  have hfin : Hid (Pure w W) := hP8.out.trans hw.out
                  clear hw
                  go_wp2_with fail
                  exact bodyPost_ret (v := .bool true) (by simp [results, Tryd.results15, go_sem]) rfl ⟨rfl, hfin.out⟩
end Go.Proofs.YtmedkmbfggphdaaDoor
