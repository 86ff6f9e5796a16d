/- The law's helpers: Held, whose first list is a row of the call's own. No condition. -/
import Derived.Test.YtmedkmbfggphdaaDoorN4
import Derived.Test.YtmedkmbfggphdaaDoorK4
import Derived.Deep.QuietTactic
import Derived.BigQuiet
set_option linter.unusedSimpArgs false
set_option linter.unusedVariables false
set_option linter.constructorNameAsVariable false
namespace Go.Proofs.YtmedkmbfggphdaaDoor
open Go.RowKit

/-- What Held returns: its first list is a row of its own. -/
def HeldQ2 (w : World) (b : BK) (u : Nat → Int) (e : Ending) (w' : World) : Prop :=
  ∃ p' cap' gs cs t, e = .returned (.tuple #[bookV (heldB b u) p' cap', .slice (some ⟨gs, 0, none⟩) (hXs b u).length cs, t]) ∧ BookAt w'.heap.size w' p' (heldB b u) ∧
    w'.ownsRow w.heap.size 2 1 (.slice (some ⟨gs, 0, none⟩) (hXs b u).length cs) (hXs b u).length (vals (hXs b u)) ∧ SlI w'.heap.size w' t (hYs b u) ∧ ∀ x, t.ownBlock = some x → x ≠ gs

set_option maxRecDepth 100000 in
set_option maxHeartbeats 8000000 in
theorem Held2_any (w : World) (b : BK) (p : Option Addr) (cap : Nat) (q : Option Addr) (n c : Nat) (f : Nat → Int) (hv : b.Valid) (hb : BookAt w.heap.size w p b) (hr : Row w.heap.size w q n fun k => .int .u16 (f k)) (hn : n ≤ 30) (hf : ∀ i, i < n → 0 ≤ f i ∧ f i ≤ 65535) :
    Calls Tryd.prog 48 #[bookV b p cap, .slice q n c] w fun e w' => HeldQ2 w b (numU f n) e w' ∧ Pure w w' := by
  have hmx : Tryd.prog.follows .mixedOrders = true := by kernel_rfl
  obtain ⟨i7, hi7, hz7, hsz7, hby7⟩ := info70'
  have HB := Lib.hid hb
  have HQ := Lib.hid hr
  have HF := Lib.hid hf
  have hl1 := hv.lots1
  have hl6 := hv.lots6
  have h12 := hv.tot
  have hn4 := hv.n4
  clear hb hr hf
  go_enter Tryd.func48, Tryd.ntmps48
  go_wp2_with fail
  obtain ⟨X, hX⟩ : ∃ X, ((w.alloc (.cells (bookC b p cap) 26)).alloc (.cells #[.int .i64 0, .int .i64 0, .int .i64 0, .slice none 0 0] 26)).alloc (.cells #[.int .i64 b.lo, .int .i64 b.hi, .int .i64 b.lots, .slice none 0 0] 26) = X := ⟨_, rfl⟩
  have hP : Hid (Pure w X) := by rw [← hX]; exact (((Diff.refl w).alloc _).alloc _).alloc _
  have hX0 : BoxB w.heap.size b p cap X := by rw [← hX]; exact (BoxB.new w b p cap 26).pure (((Diff.refl _).alloc _).alloc _)
  have hX1 : X.heap[w.heap.size + 1]? = some (.cells #[.int .i64 0, .int .i64 0, .int .i64 0, .slice none 0 0] 26 (0, 0)) := by
    rw [← hX]
    have := World.alloc_heap_new (w.alloc (.cells (bookC b p cap) 26)) (.cells #[.int .i64 0, .int .i64 0, .int .i64 0, .slice none 0 0] 26)
    rw [World.size_alloc] at this
    exact (Below.heap_alloc _ _ _ (by simp)).trans this
  have hX2 : X.heap[w.heap.size + 1 + 1]? = some (.cells #[.int .i64 b.lo, .int .i64 b.hi, .int .i64 b.lots, .slice none 0 0] 26 (0, 0)) := by
    rw [← hX]
    have := World.alloc_heap_new ((w.alloc (.cells (bookC b p cap) 26)).alloc (.cells #[.int .i64 0, .int .i64 0, .int .i64 0, .slice none 0 0] 26)) (.cells #[.int .i64 b.lo, .int .i64 b.hi, .int .i64 b.lots, .slice none 0 0] 26)
    rwa [World.size_alloc, World.size_alloc] at this
  rw [hX]
  obtain ⟨g0, hg0⟩ : ∃ g, w.heap.size = g := ⟨_, rfl⟩
  obtain ⟨g1, hg1⟩ : ∃ g, g0 + 1 = g := ⟨_, rfl⟩
  obtain ⟨g2, hg2⟩ : ∃ g, g1 + 1 = g := ⟨_, rfl⟩
  have HG : Hid (w.heap.size = g0 ∧ g0 + 1 = g1 ∧ g1 + 1 = g2 ∧ g2 < X.heap.size) := ⟨hg0, hg1, hg2, by have := (Array.getElem?_eq_some_iff.1 hX2).1; omega⟩
  rw [hg0] at hX0 hX1 hX2 ⊢
  rw [hg1] at hX1 hX2 ⊢
  rw [hg2] at hX2 ⊢
  clear hX hg0 hg1 hg2
  have H0 := Lib.hid hX0
  have Z0 := Lib.hid hX1
  have O0 := Lib.hid hX2
  clear hX0 hX1 hX2
  obtain ⟨L, hL⟩ := Int.eq_ofNat_of_zero_le (show 0 ≤ b.lots by omega)
  have HL := Lib.hid hL
  have hL6 : L ≤ 6 := by omega
  clear hL hl1 hl6
  obtain ⟨u, hu⟩ : ∃ u, numU f n = u := ⟨_, rfl⟩
  have HU : Hid (∀ a, 0 ≤ u a ∧ u a ≤ 65535) := fun a => by rw [← hu]; exact numU_in HF.out a
  have num : Hid (∀ (a : Nat) (x : Int) (W : World), x = a → a ≤ 1000 → Pure w W → Calls Tryd.prog 88 #[.slice q n c, .int .i64 x] W fun e w' => e = .returned (.int .i64 (u a)) ∧ W = w') := fun a x W hx ha hp => by
    rw [← hu]
    exact number_any W q n c f a x hx (by omega) ha HF.out (HQ.out.to hp)
  have HUe := Lib.hid hu
  clear hu
  go_loopw [8, 10] (fun s i wr => ∃ (k : Nat) (v : Value), k ≤ L ∧ i = .int .i64 k ∧ s = v ∧ Hid (wr.ownsRow X.heap.size 2 1 v k (vals ((List.range k).map (hS u)))) ∧ Hid (Pure X wr)) (fun _ i _ => L - (intOf i).toNat)
  case atStart => exact ⟨0, _, Nat.zero_le _, rfl, rfl, World.ownsRow_nil _ _ _ _, Diff.refl _⟩
  case round =>
    obtain ⟨k, v, hk, rfl, huv, HO, HPr⟩ := hrel
    have huv' := huv.symm
    clear huv
    subst huv'
    obtain ⟨c0, c1, c2, c3, cl⟩ := H0.out.pure HPr.out
    rw [HL.out] at c2
    have hk0 : (0 : Int) ≤ k := by omega
    by_cases hkL : k < L
    · have hki : (k : Int) < L := by omega
      go_wp2_with fail
      refine (num.out k _ wr rfl (by omega) (hP.out.trans HPr.out)).mono ?_
      rintro e w' ⟨rfl, rfl⟩
      have hu0 := (HU.out k).1
      have hrem : (u k).tmod 1001 = hS u k := by unfold hS; rw [Int.tmod_eq_emod_of_nonneg hu0]
      obtain ⟨v', w', hr, hown, hd, hob, g', c', rfl⟩ := push_one 27 2 (.int .i64 0) 8 Tryd.underlying27 info2 rfl (by omega) HO.out (by omega) (HPr.out.size) (.int .i64 (hS u k)) rfl
      rw [min_snoc] at hown
      have HO2 := Lib.hid hown
      have HP2 : Hid (Pure X w') := HPr.out.trans' hd (fun x hx hh => by have := (HO.out.lt x hh.symm).1; omega)
      clear hown hd hob
      go_wp2_with (at_builtin; refine Lib.wpList_append_run _ rfl _ _ _ _ rfl _ _ rfl rfl _ _ hr ?_)
      exact ⟨⟨k + 1, _, by omega, by push_cast; rfl, rfl, HO2.out, HP2.out⟩, by simp only [intOf]; omega⟩
    · obtain rfl : k = L := by omega
      obtain ⟨gs, cs, rfl⟩ : ∃ gs cs, v = .slice (some ⟨gs, 0, none⟩) k cs := by
        rcases HO.out.2 with ⟨_, h0⟩ | ⟨g, cap, cur, h1, _⟩
        · have := hv.lots1; have := HL.out; omega
        · exact ⟨g, cap, h1⟩
      obtain ⟨ws, rfl⟩ : ∃ ws : World, ws = wr := ⟨_, rfl⟩
      have HI0 : Hid (HO1 b u g2 k X (.slice (some ⟨gs, 0, none⟩) k cs) 0 (.slice none 0 0) (.slice none 0 0) ws) :=
        ⟨⟨HPr.out.mono (fun _ _ h => h.elim), HG.out.2.2.2, HO.out, (HPr.out.block _ HG.out.2.2.2 id).trans O0.out, [], World.ownsRow_nil _ _ _ _, fun j hj => by omega⟩, World.ownsRow_nil _ _ _ _, fun x h1 h2 => by simp [Value.ownBlock] at h2⟩
      go_wp2_with fail
      clear c0 c1 c2 c3 cl
      go_loopw [9, 11] (fun s i wr => ∃ (m : Nat) (tv sv : Value), m ≤ b.n ∧ i = .int .i64 m ∧ s = tv ∧ Hid (HO1 b u g2 k X (.slice (some ⟨gs, 0, none⟩) k cs) m tv sv wr)) (fun _ i _ => b.n - (intOf i).toNat)
      case atStart => exact ⟨0, _, _, Nat.zero_le _, rfl, rfl, HI0.out⟩
      case round =>
        obtain ⟨m, tv, sv, hm, rfl, htv, HI⟩ := hrel
        have htv' := htv.symm
        clear htv
        subst htv'
        have hPw : Hid (Pure w wr) := hP.out.trans' HI.out.o2.df (fun x hx hh => by have := HG.out; omega)
        have hd0 : Hid (BoxB g0 b p cap wr) := by
          obtain ⟨a0, a1, a2, a3, al⟩ := H0.out
          have hc := (dcell HI.out.o2.df).1
          have hne : ¬ g0 = g2 := by have := HG.out; omega
          exact ⟨(hc _ _ al hne).trans a0, (hc _ _ al hne).trans a1, (hc _ _ al hne).trans a2, (hc _ _ al hne).trans a3, Nat.lt_of_lt_of_le al HI.out.o2.df.size⟩
        obtain ⟨c0, c1, c2, c3, cl⟩ := hd0.out
        rw [HL.out] at c2
        have hm0 : (0 : Int) ≤ m := by omega
        by_cases hmn : m < b.n
        · have hmi : (m : Int) < b.n := by omega
          obtain ⟨sb, so, sq, sc, rfl, hsb, hc, hsit⟩ := HB.out m hmn
          have HSIT := Lib.hid hsit
          have HC := Lib.hid hc
          clear hc hsit
          have ut : Hid (b.upto m + b.m m ≤ 12) := by
            have := b.upto_mono (i := m + 1) (j := b.n) (by omega)
            have h12' := h12
            unfold BK.total at h12'
            simp only [BK.upto] at this
            show _ ≤ _
            omega
          obtain ⟨wo, rfl⟩ : ∃ wo : World, wo = wr := ⟨_, rfl⟩
          go_wp2_with fail
          go_loopw [9, 12, 13] (fun s l i wr => ∃ (j : Nat) (tw lv : Value), j ≤ b.m m ∧ i = .int .i64 j ∧ s = tw ∧ l = lv ∧ Hid (HJ b u X wo (.slice (some ⟨gs, 0, none⟩) k cs) m j lv tv tw wr)) (fun _ _ i _ => b.m m - (intOf i).toNat)
          case atStart => exact ⟨0, _, _, Nat.zero_le _, rfl, rfl, rfl, Diff.refl _, by rw [Nat.add_zero]; simpa [hRow] using HI.out.ti, HI.out.ap, .inl rfl, World.ownsRow_nil _ _ _ _⟩
          case round =>
            obtain ⟨j, tw, lv, hj, rfl, htw, hlv, HJJ⟩ := hrel
            have htw' := htw.symm
            have hlv' := hlv.symm
            clear htw hlv
            subst htw' hlv'
            have HP1 : Hid (Pure w wr) := hPw.out.trans' HJJ.out.df (fun x hx hh => by have := (HI.out.ti.lt x hh.symm).1; have := hP.out.size; omega)
            have hk2 := HI.out.o2.keep HI.out.ti HI.out.ap HJJ.out.df
            have HK2 := Lib.hid hk2
            have hd1 : Hid (BoxB g0 b (some ⟨sb, so, none⟩) cap wr) := by
              obtain ⟨a0, a1, a2, a3, al⟩ := hd0.out
              have hne : ¬ some g0 = tv.ownBlock := fun hh => by have := (HI.out.ti.lt g0 hh.symm).1; have := HG.out; omega
              have hcc := (dcell HJJ.out.df).1
              exact ⟨(hcc _ _ al hne).trans a0, (hcc _ _ al hne).trans a1, (hcc _ _ al hne).trans a2, (hcc _ _ al hne).trans a3, Nat.lt_of_lt_of_le al HJJ.out.df.size⟩
            clear hk2 c0 c1 c2 c3 cl
            obtain ⟨c0, c1, c2, c3, cl⟩ := hd1.out
            rw [HL.out] at c2
            have hj0 : (0 : Int) ≤ j := by omega
            have zc := ((pcell HP1.out).1 _ _ hsb).trans HC.out
            by_cases hjm : j < b.m m
            · have hji : (j : Int) < b.m m := by omega
              obtain ⟨tb, to', rfl, htb, t0, t1, t2⟩ := HSIT.out j hjm
              have y0 := ((pcell HP1.out).1 _ _ htb).trans t0
              have y1 := ((pcell HP1.out).1 _ _ htb).trans t1
              have y2 := ((pcell HP1.out).1 _ _ htb).trans t2
              have htl : tb < wr.heap.size := Nat.lt_of_lt_of_le htb HP1.out.size
              have hl0 := hv.lot0 m j hmn hjm
              have hl1 := hv.lot1 m j hmn hjm
              obtain ⟨lt, hlt⟩ := Int.eq_ofNat_of_zero_le hl0
              have hltk : lt < k := by have := HL.out; omega
              have hlti : (lt : Int) < k := by omega
              have hlt0 : (0 : Int) ≤ lt := by omega
              rw [hlt] at y0
              have ys : wr.cell? ⟨gs, lt, none⟩ = some (.int .i64 (hS u lt)) := by
                rw [World.ownsRow.cellAt HK2.out.sh lt (by omega)]
                simp [vals, hltk]
              have hgl : gs < wr.heap.size := (HK2.out.sh.lt gs rfl).2
              have hSb := hS_in u lt
              have hTb := hT_in b hv u m j
              obtain ⟨vs, hvs⟩ : ∃ v, hS u lt = v := ⟨_, rfl⟩
              obtain ⟨slo, hslo⟩ : ∃ v, (b.t m j).lo = v := ⟨_, rfl⟩
              obtain ⟨shi, hshi⟩ : ∃ v, (b.t m j).hi = v := ⟨_, rfl⟩
              rw [hvs] at ys hSb
              rw [hslo] at y1
              rw [hshi] at y2
              obtain ⟨xv, hxv⟩ : ∃ v, hT b u m j = v := ⟨_, rfl⟩
              rw [hxv] at hTb
              have hj12 : j ≤ 12 := by have := ut.out; omega
              have HV : Hid (hS u lt = vs ∧ (b.t m j).lo = slo ∧ (b.t m j).hi = shi ∧ hT b u m j = xv ∧ (b.t m j).lot = lt) := ⟨hvs, hslo, hshi, hxv, hlt⟩
              have hsy : IntKind.i64.wrap (vs - xv) = vs - xv := IntWalk.i64_in _ (by omega)
              have hTb1 := hTb.1
              have hTb2 : xv ≤ 600 := by omega
              clear t0 t1 t2 hl0 hl1 hlt hvs hslo hshi hxv hTb
              by_cases hj0' : j = 0
              · have hx0 : xv = 0 := by rw [← HV.out.2.2.2.1, hj0']; rfl
                have HX0 := Lib.hid hx0
                have hjn : ¬ (0 : Int) < (j : Int) := by omega
                rw [hx0] at hsy
                clear hx0 hj0'
                go_wp2_with fail
                have HV0 : Hid (Pure wr wr) := Diff.refl _
                obtain ⟨sy, hsye⟩ : ∃ s, vs = s := ⟨_, rfl⟩
                have HSY : Hid (hS u lt - hT b u m j = sy) := by show _ = _; rw [HV.out.1, HV.out.2.2.2.1, HX0.out]; omega
                have HXV : Hid (hT b u m j = 0) := by show _ = _; rw [HV.out.2.2.2.1]; exact HX0.out
                rw [hsye]
                obtain ⟨V, hV⟩ : ∃ V, wr.alloc (.cells #[.int .i64 (lt : Int), .int .i64 slo, .int .i64 shi] 70) = V := ⟨_, rfl⟩
                have hpV : Pure wr V := by rw [← hV]; exact (Diff.refl wr).alloc _
                have hXx : V.heap[wr.heap.size]? = some (.cells #[.int .i64 (lt : Int), .int .i64 slo, .int .i64 shi] 70 (0, 0)) := by rw [← hV]; exact World.alloc_heap_new _ _
                obtain ⟨gx, hgx⟩ : ∃ g, wr.heap.size = g := ⟨_, rfl⟩
                rw [hV]
                rw [hgx] at hXx ⊢
                have HX0 : Hid (V.cell? ⟨gx, 0, none⟩ = some (.int .i64 (lt : Int))) := by show _ = _; rw [cell_of_row V _ _ _ _ _ hXx]; rfl
                have HX1 : Hid (V.cell? ⟨gx, 1, none⟩ = some (.int .i64 slo)) := by show _ = _; rw [cell_of_row V _ _ _ _ _ hXx]; rfl
                have HX2 : Hid (V.cell? ⟨gx, 2, none⟩ = some (.int .i64 shi)) := by show _ = _; rw [cell_of_row V _ _ _ _ _ hXx]; rfl
                have HXl : Hid (gx < V.heap.size) := (Array.getElem?_eq_some_iff.1 hXx).1
                have HVr : Hid (Pure wr V) := HV0.out.trans hpV
                have HLL : Hid (V.ownsRow wo.heap.size 70 3 lv j ((heldB b u).rowC m j)) := own_pure HJJ.out.ll HVr.out
                have HWO : Hid (wo.heap.size ≤ V.heap.size) := Nat.le_trans HJJ.out.df.size HVr.out.size
                have HROW : Hid ((heldB b u).rowC m j ++ #[.int .i64 (lt : Int), .int .i64 (if sy < slo then sy else slo), .int .i64 (if shi < sy then sy else shi)].toList = (heldB b u).rowC m (j + 1)) := by
                  show _ = _
                  simp only [BK.rowC]
                  congr 1
                  have hl : (heldT b u m j).lot = (lt : Int) := HV.out.2.2.2.2
                  have h1 : (heldT b u m j).lo = if sy < slo then sy else slo := by
                    show min (b.t m j).lo (hS u (b.t m j).lot.toNat - hT b u m j) = _
                    rw [HV.out.2.2.2.2, Int.toNat_natCast, HSY.out, HV.out.2.1]
                    split <;> omega
                  have h2 : (heldT b u m j).hi = if shi < sy then sy else shi := by
                    show max (b.t m j).hi (hS u (b.t m j).lot.toNat - hT b u m j) = _
                    rw [HV.out.2.2.2.2, Int.toNat_natCast, HSY.out, HV.out.2.2.1]
                    split <;> omega
                  show _ = [Value.int .i64 (heldT b u m j).lot, Value.int .i64 (heldT b u m j).lo, Value.int .i64 (heldT b u m j).hi]
                  rw [hl, h1, h2]
                clear hV hXx hgx hpV
                have HVe := Lib.hid hsye
                clear hsye
                refine reg_invW (fun d a W => ∃ (sb2 : Nat) (v2 : Value), a = { tmps := #[bookV b (some { block := sb, off := so }) cap, Value.slice q n c, Value.pointer (some { block := g0, off := 0 }), undef, Value.pointer (some { block := g1, off := 0 }), Value.slice none 0 0, Value.slice none 0 0, Value.pointer (some { block := g2, off := 0 }), Value.slice (some { block := gs, off := 0 }) k cs, tw, Value.int IntKind.i64 (k : Int), Value.int IntKind.i64 (m : Int), (bif d 17 then v2 else lv), Value.int IntKind.i64 (j : Int), Value.int IntKind.i64 0, Value.pointer (some { block := gx, off := 0 }), Value.int IntKind.i64 (sy), Value.pointer (some { block := g0, off := 0 }), Value.agg #[Value.int IntKind.i64 b.lo, Value.int IntKind.i64 b.hi], Value.pointer (some { block := g0, off := 2 }), Value.int IntKind.i64 b.lots, Value.agg #[Value.int IntKind.i64 b.lo, Value.int IntKind.i64 b.hi, Value.int IntKind.i64 b.lots, Value.slice none 0 0], Value.int IntKind.i64 (k : Int), Value.pointer (some { block := g0, off := 2 }), Value.int IntKind.i64 (k : Int), Value.bool false, u26, u27, u28, u29, u30, u31, u32, u33, u34, Value.int IntKind.i64 (m : Int), Value.pointer (some { block := g0, off := 3 }), Value.slice (some { block := sb, off := so }) b.n cap, Value.int IntKind.i64 (b.n : Int), Value.bool true, u40, u41, Value.int IntKind.i64 (j : Int), Value.pointer (some { block := g0, off := 3 }), Value.slice (some { block := sb, off := so }) b.n cap, Value.int IntKind.i64 (m : Int), Value.pointer (some { block := sb, off := so + m }), Value.slice (some { block := tb, off := to' }) (b.m m) sc, Value.int IntKind.i64 ↑(b.m m), Value.bool true, u50, u51, Value.int IntKind.i64 (j : Int), Value.bool false, u54, u55, u56, u57, u58, u59, u60, u61, u62, u63, u64, u65, u66, u67, u68, u69, u70, u71, u72, u73, u74, u75, u76, u77, u78, u79, u80, Value.pointer (some { block := g0, off := 3 }), Value.slice (some { block := sb, off := so }) b.n cap, Value.int IntKind.i64 (m : Int), Value.pointer (some { block := sb, off := so + m }), Value.slice (some { block := tb, off := to' }) (b.m m) sc, Value.int IntKind.i64 (j : Int), Value.pointer (some { block := tb, off := to' + j * 3 }), Value.agg #[Value.int IntKind.i64 (lt : Int), Value.int IntKind.i64 slo, Value.int IntKind.i64 shi], Value.slice (some { block := gs, off := 0 }) k cs, Value.pointer (some { block := gx, off := 0 }), Value.int IntKind.i64 (lt : Int), Value.pointer (some { block := gs, off := lt }), Value.int IntKind.i64 (sy), Value.int IntKind.i64 0, Value.int IntKind.i64 (sy), (bif d 0 then lv else u96), (bif d 1 then Value.pointer (some { block := gx, off := 0 }) else u97), (bif d 2 then Value.int IntKind.i64 ((lt : Int)) else u98), (bif d 3 then Value.pointer (some { block := gx, off := 1 }) else u99), (bif d 4 then Value.pointer (some { block := gx, off := 1 }) else u100), (bif d 5 then Value.int IntKind.i64 (slo) else u101), (bif d 6 then Value.int IntKind.i64 (sy) else u102), (bif d 7 then Value.int IntKind.i64 (if sy < slo then sy else slo) else u103), (bif d 8 then Value.pointer (some { block := gx, off := 1 }) else u104), (bif d 9 then Value.pointer (some { block := gx, off := 2 }) else u105), (bif d 10 then Value.int IntKind.i64 (shi) else u106), (bif d 11 then Value.int IntKind.i64 (sy) else u107), (bif d 12 then Value.int IntKind.i64 (if shi < sy then sy else shi) else u108), (bif d 13 then Value.agg #[Value.int IntKind.i64 (if sy < slo then sy else slo), Value.int IntKind.i64 (if shi < sy then sy else shi)] else u109), (bif d 14 then Value.agg #[Value.int IntKind.i64 ((lt : Int)), Value.int IntKind.i64 (if sy < slo then sy else slo), Value.int IntKind.i64 (if shi < sy then sy else shi)] else u110), (bif d 15 then Value.slice (some { block := sb2, off := 0 }) 1 1 else u111), (bif d 16 then v2 else u112), u113, u114, u115, u116, u117, u118, u119, u120, u121, u122, undef, undef, undef], defers := [] } ∧ (d 16 = false → Hid (Pure V W)) ∧ (d 15 = true → d 16 = false → Hid (W.heap[sb2]? = some (.cells #[.int .i64 (lt : Int), .int .i64 (if sy < slo then sy else slo), .int .i64 (if shi < sy then sy else shi)] 70 (0, 0)))) ∧ (d 16 = true → (∃ g c, v2 = .slice (some ⟨g, 0, none⟩) (j + 1) c) ∧ Hid (W.ownsRow wo.heap.size 70 3 v2 (j + 1) ((heldB b u).rowC m (j + 1))) ∧ Hid (Diff (fun x => some x = lv.ownBlock) V W))) hmx (by kernel_rfl) ?_ ?_ ?_
                · exact ⟨0, undef, rfl, (fun _ => (Diff.refl V).drew), (fun h => by cases h), (fun h => by cases h)⟩
                · refine ⟨?_, ?_, ?_, ?_, ?_, ?_, ?_, ?_, ?_, ?_, ?_, ?_, ?_, ?_, ?_, ?_, ?_, ?_, trivial⟩
                  · rintro d a W hdi hdep hcl ⟨sb2, v2, rfl, hw⟩ K hK
                    have E := hcl.facts 0 hdi rfl hdep [] [16, 17] (by kernel_rfl) (by kernel_rfl)
                    simp only [AllT, AllF] at E
                    clear hdi hdep hcl
                    go_simp
                    exact hK _ _ ⟨sb2, v2, by simp [upd, E], by simpa [upd, E] using hw⟩
                  · rintro d a W hdi hdep hcl ⟨sb2, v2, rfl, hw⟩ K hK
                    have E := hcl.facts 1 hdi rfl hdep [] [2, 14, 15, 16, 17] (by kernel_rfl) (by kernel_rfl)
                    simp only [AllT, AllF] at E
                    clear hdi hdep hcl
                    go_simp
                    exact hK _ _ ⟨sb2, v2, by simp [upd, E], by simpa [upd, E] using hw⟩
                  · rintro d a W hdi hdep hcl ⟨sb2, v2, rfl, hw⟩ K hK
                    have E := hcl.facts 2 hdi rfl hdep [1] [14, 15, 16, 17] (by kernel_rfl) (by kernel_rfl)
                    simp only [AllT, AllF] at E
                    clear hdi hdep hcl
                    have hpW := (hw.1 (by simp [E])).out
                    have hx0 := ((pcell hpW).1 _ _ HXl.out).trans HX0.out
                    have hx1 := ((pcell hpW).1 _ _ HXl.out).trans HX1.out
                    have hx2 := ((pcell hpW).1 _ _ HXl.out).trans HX2.out
                    go_simp
                    exact hK _ _ ⟨sb2, v2, by simp [upd, E], by simpa [upd, E] using hw⟩
                  · rintro d a W hdi hdep hcl ⟨sb2, v2, rfl, hw⟩ K hK
                    have E := hcl.facts 3 hdi rfl hdep [] [4, 5, 7, 13, 14, 15, 16, 17] (by kernel_rfl) (by kernel_rfl)
                    simp only [AllT, AllF] at E
                    clear hdi hdep hcl
                    go_simp
                    exact hK _ _ ⟨sb2, v2, by simp [upd, E], by simpa [upd, E] using hw⟩
                  · rintro d a W hdi hdep hcl ⟨sb2, v2, rfl, hw⟩ K hK
                    have E := hcl.facts 4 hdi rfl hdep [3] [5, 7, 13, 14, 15, 16, 17] (by kernel_rfl) (by kernel_rfl)
                    simp only [AllT, AllF] at E
                    clear hdi hdep hcl
                    go_simp
                    exact hK _ _ ⟨sb2, v2, by simp [upd, E], by simpa [upd, E] using hw⟩
                  · rintro d a W hdi hdep hcl ⟨sb2, v2, rfl, hw⟩ K hK
                    have E := hcl.facts 5 hdi rfl hdep [3, 4] [7, 13, 14, 15, 16, 17] (by kernel_rfl) (by kernel_rfl)
                    simp only [AllT, AllF] at E
                    clear hdi hdep hcl
                    have hpW := (hw.1 (by simp [E])).out
                    have hx0 := ((pcell hpW).1 _ _ HXl.out).trans HX0.out
                    have hx1 := ((pcell hpW).1 _ _ HXl.out).trans HX1.out
                    have hx2 := ((pcell hpW).1 _ _ HXl.out).trans HX2.out
                    go_simp
                    exact hK _ _ ⟨sb2, v2, by simp [upd, E], by simpa [upd, E] using hw⟩
                  · rintro d a W hdi hdep hcl ⟨sb2, v2, rfl, hw⟩ K hK
                    have E := hcl.facts 6 hdi rfl hdep [] [7, 13, 14, 15, 16, 17] (by kernel_rfl) (by kernel_rfl)
                    simp only [AllT, AllF] at E
                    clear hdi hdep hcl
                    go_simp
                    exact hK _ _ ⟨sb2, v2, by simp [upd, E], by simpa [upd, E] using hw⟩
                  · rintro d a W hdi hdep hcl ⟨sb2, v2, rfl, hw⟩ K hK
                    have E := hcl.facts 7 hdi rfl hdep [3, 4, 5, 6] [13, 14, 15, 16, 17] (by kernel_rfl) (by kernel_rfl)
                    simp only [AllT, AllF] at E
                    clear hdi hdep hcl
                    go_simp
                    exact hK _ _ ⟨sb2, v2, by simp [upd, E], by simpa [upd, E] using hw⟩
                  · rintro d a W hdi hdep hcl ⟨sb2, v2, rfl, hw⟩ K hK
                    have E := hcl.facts 8 hdi rfl hdep [] [9, 10, 12, 13, 14, 15, 16, 17] (by kernel_rfl) (by kernel_rfl)
                    simp only [AllT, AllF] at E
                    clear hdi hdep hcl
                    go_simp
                    exact hK _ _ ⟨sb2, v2, by simp [upd, E], by simpa [upd, E] using hw⟩
                  · rintro d a W hdi hdep hcl ⟨sb2, v2, rfl, hw⟩ K hK
                    have E := hcl.facts 9 hdi rfl hdep [8] [10, 12, 13, 14, 15, 16, 17] (by kernel_rfl) (by kernel_rfl)
                    simp only [AllT, AllF] at E
                    clear hdi hdep hcl
                    go_simp
                    exact hK _ _ ⟨sb2, v2, by simp [upd, E], by simpa [upd, E] using hw⟩
                  · rintro d a W hdi hdep hcl ⟨sb2, v2, rfl, hw⟩ K hK
                    have E := hcl.facts 10 hdi rfl hdep [8, 9] [12, 13, 14, 15, 16, 17] (by kernel_rfl) (by kernel_rfl)
                    simp only [AllT, AllF] at E
                    clear hdi hdep hcl
                    have hpW := (hw.1 (by simp [E])).out
                    have hx0 := ((pcell hpW).1 _ _ HXl.out).trans HX0.out
                    have hx1 := ((pcell hpW).1 _ _ HXl.out).trans HX1.out
                    have hx2 := ((pcell hpW).1 _ _ HXl.out).trans HX2.out
                    go_simp
                    exact hK _ _ ⟨sb2, v2, by simp [upd, E], by simpa [upd, E] using hw⟩
                  · rintro d a W hdi hdep hcl ⟨sb2, v2, rfl, hw⟩ K hK
                    have E := hcl.facts 11 hdi rfl hdep [] [12, 13, 14, 15, 16, 17] (by kernel_rfl) (by kernel_rfl)
                    simp only [AllT, AllF] at E
                    clear hdi hdep hcl
                    go_simp
                    exact hK _ _ ⟨sb2, v2, by simp [upd, E], by simpa [upd, E] using hw⟩
                  · rintro d a W hdi hdep hcl ⟨sb2, v2, rfl, hw⟩ K hK
                    have E := hcl.facts 12 hdi rfl hdep [8, 9, 10, 11] [13, 14, 15, 16, 17] (by kernel_rfl) (by kernel_rfl)
                    simp only [AllT, AllF] at E
                    clear hdi hdep hcl
                    go_simp
                    exact hK _ _ ⟨sb2, v2, by simp [upd, E], by simpa [upd, E] using hw⟩
                  · rintro d a W hdi hdep hcl ⟨sb2, v2, rfl, hw⟩ K hK
                    have E := hcl.facts 13 hdi rfl hdep [3, 4, 5, 6, 7, 8, 9, 10, 11, 12] [14, 15, 16, 17] (by kernel_rfl) (by kernel_rfl)
                    simp only [AllT, AllF] at E
                    clear hdi hdep hcl
                    have hpW := (hw.1 (by simp [E])).out
                    go_simp
                    refine (to_any _ _ _).mono ?_
                    rintro e w6 ⟨rfl, hp6⟩
                    refine hK _ _ ⟨sb2, v2, by simp [upd, E], fun _ => hpW.trans hp6, fun h => by simp [upd, E] at h, fun h => by simp [upd, E] at h⟩
                  · rintro d a W hdi hdep hcl ⟨sb2, v2, rfl, hw⟩ K hK
                    have E := hcl.facts 14 hdi rfl hdep [1, 2, 3, 4, 5, 6, 7, 8, 9, 10, 11, 12, 13] [15, 16, 17] (by kernel_rfl) (by kernel_rfl)
                    simp only [AllT, AllF] at E
                    clear hdi hdep hcl
                    go_simp
                    exact hK _ _ ⟨sb2, v2, by simp [upd, E], by simpa [upd, E] using hw⟩
                  · rintro d a W hdi hdep hcl ⟨sb2, v2, rfl, hw⟩ K hK
                    have E := hcl.facts 15 hdi rfl hdep [1, 2, 3, 4, 5, 6, 7, 8, 9, 10, 11, 12, 13, 14] [16, 17] (by kernel_rfl) (by kernel_rfl)
                    simp only [AllT, AllF] at E
                    clear hdi hdep hcl
                    have hpW := (hw.1 (by simp [E])).out
                    go_simp
                    refine hK _ _ ⟨W.heap.size, v2, by simp [upd, E], fun _ => hpW.alloc _, fun _ _ => World.alloc_heap_new _ _, fun h => by simp [upd, E] at h⟩
                  · rintro d a W hdi hdep hcl ⟨sb2, v2, rfl, hw⟩ K hK
                    have E := hcl.facts 16 hdi rfl hdep [0, 1, 2, 3, 4, 5, 6, 7, 8, 9, 10, 11, 12, 13, 14, 15] [17] (by kernel_rfl) (by kernel_rfl)
                    simp only [AllT, AllF] at E
                    clear hdi hdep hcl
                    have hpW := (hw.1 (by simp [E])).out
                    have h5 := (hw.2.1 (by simp [E]) (by simp [E])).out
                    have hlW : W.ownsRow wo.heap.size 70 3 lv j ((heldB b u).rowC m j) := own_pure HLL.out hpW
                    have hsV := hpW.size
                    obtain ⟨v', w', hr, q2, q3, -⟩ := run_append_own (P := Tryd.prog) W wo.heap.size 59 59 70 i7 (.agg #[.int .i64 0, .int .i64 0, .int .i64 0]) 3 24 Tryd.underlying59 hi7 hz7 hsz7 hby7 rfl (by omega) lv j ((heldB b u).rowC m j) hlW ⟨sb2, 0, none⟩ 1 1 #[.int .i64 (lt : Int), .int .i64 (if sy < slo then sy else slo), .int .i64 (if shi < sy then sy else shi)].toList rfl (fun q u' hq => by
                        have hadd : (⟨sb2, 0, none⟩ : Addr).add q = ⟨sb2, q, none⟩ := by unfold Addr.add; split <;> simp_all
                        rw [hadd, cell_of_row W _ _ _ _ _ h5]
                        match q with
                        | 0 => simpa using hq
                        | 1 => simpa using hq
                        | 2 => simpa using hq
                        | q + 3 => simp at hq) (by simp [Value.oneCell']) (by simp only [maxLen]; omega) (by omega) (by have := HWO.out; omega)
                    have hdW : Diff (fun x => some x = lv.ownBlock) V w' := Diff.trans (hpW.mono (fun _ _ h => h.elim)) ⟨q3.os, q3.tape, q3.output, q3.size, fun x hx ho => q3.block x hx ho⟩
                    have hform : ∃ g c, v' = .slice (some ⟨g, 0, none⟩) (j + 1) c := by
                      rcases q2.2 with ⟨_, h0⟩ | ⟨g, c, cur, he, _⟩
                      · omega
                      · exact ⟨g, c, he⟩
                    rw [HROW.out] at q2
                    refine Eq.mpr (if_pos rfl) ?_
                    refine operW_append (.tmp 96) (.tmp 111) 59 rfl lv (.slice (some ⟨sb2, 0, none⟩) 1 1) (by simp [Act.eval, upd, E]) (by simp [Act.eval, upd, E]) v' w' hr ?_
                    exact hK _ _ ⟨sb2, v', by simp [Act.put, upd, E], fun h => by simp [upd, E] at h, fun _ h => by simp [upd, E] at h, fun _ => ⟨hform, q2, hdW⟩⟩
                  · rintro d a W hdi hdep hcl ⟨sb2, v2, rfl, hw⟩ K hK
                    have E := hcl.facts 17 hdi rfl hdep [0, 1, 2, 3, 4, 5, 6, 7, 8, 9, 10, 11, 12, 13, 14, 15, 16] [] (by kernel_rfl) (by kernel_rfl)
                    simp only [AllT, AllF] at E
                    clear hdi hdep hcl
                    go_simp
                    exact hK _ _ ⟨sb2, v2, by simp [upd, E], by simpa [upd, E] using hw⟩
                · rintro d a W hall ⟨sb2, v2, rfl, hw⟩
                  have E := AllT.all hall [0, 1, 2, 3, 4, 5, 6, 7, 8, 9, 10, 11, 12, 13, 14, 15, 16, 17] (by kernel_rfl)
                  simp only [AllT] at E
                  simp only [E, cond_true] at hw ⊢
                  clear E hall
                  obtain ⟨⟨lg, lc, rfl⟩, HL2, HD2⟩ := hw.2.2 trivial
                  clear hw
                  have hd : Diff (fun x => some x = lv.ownBlock) wr W := Diff.trans (HVr.out.mono (fun _ _ h => h.elim)) HD2.out
                  have hBX : X.heap.size ≤ W.heap.size := by have := HI.out.o2.df.size; have := HJJ.out.df.size; have := hd.size; omega
                  have hshW : W.ownsRow X.heap.size 2 1 (.slice (some ⟨gs, 0, none⟩) k cs) k (vals ((List.range k).map (hS u))) := own_keep HK2.out.sh hd (own_apart HK2.out.sh HJJ.out.ll (by decide))
                  obtain ⟨tv', w', hr, hJ2⟩ := HJJ.out.next HL2.out hd hBX (by have := ut.out; omega) hshW
                  rw [HXV.out] at hr
                  have HJ2 := Lib.hid hJ2
                  clear hJ2 hd hBX hshW HL2 HD2
                  go_wp2_with (at_builtin; refine Lib.wpList_append_run _ rfl _ _ _ _ rfl _ _ rfl rfl _ _ hr ?_)
                  exact ⟨⟨j + 1, _, _, by omega, by push_cast; rfl, rfl, rfl, HJ2.out⟩, by simp only [intOf]; omega⟩
              · have hj1 : (0 : Int) < j := by omega
                have hj1n : 0 < j := by omega
                obtain ⟨tg, tc, rfl⟩ : ∃ tg tc, tw = .slice (some ⟨tg, 0, none⟩) (b.upto m + j) tc := by
                  rcases HJJ.out.ti.2 with ⟨_, h0⟩ | ⟨g, cap, cur, h1, _⟩
                  · omega
                  · exact ⟨g, cap, h1⟩
                have hcl := World.ownsRow.cellAt HJJ.out.ti (b.upto m + (j - 1)) (by omega)
                have hnl : (vals (hAll b u m ++ hRow b u m j))[b.upto m + (j - 1)]? = some (.int .i64 (hT b u m (j - 1))) := by
                  have h1 := hAll_nth2 b u m j (j - 1) (by omega)
                  unfold nthI at h1
                  rw [List.getD_eq_getElem?_getD] at h1
                  have hlen : b.upto m + (j - 1) < (hAll b u m ++ hRow b u m j).length := by rw [List.length_append, hAll_length, hRow_length]; omega
                  rw [List.getElem?_eq_getElem hlen] at h1
                  simp only [vals, List.getElem?_map, List.getElem?_eq_getElem hlen, Option.map_some]
                  exact congrArg (fun z => some (Value.int .i64 z)) h1
                rw [hnl] at hcl
                have hpb := hT_in b hv u m (j - 1)
                have hxe : xv = hT b u m (j - 1) + b.lo + u (b.upto m + j + k) % (b.hi - b.lo + 1) := by
                  rw [← HV.out.2.2.2.1]
                  obtain ⟨i, rfl⟩ : ∃ i, j = i + 1 := ⟨j - 1, by omega⟩
                  simp only [hT, Nat.add_sub_cancel]
                  rw [show b.lots.toNat = k by have := HL.out; omega]
                have hlo0 := hv.lo0
                have hlohi := hv.lohi
                have hhi50 := hv.hi50
                have ha12 : b.upto m + j ≤ 12 := by have := ut.out; omega
                have ha1 : 1 ≤ b.upto m + j := by omega
                have hai : b.upto m + (j - 1) = b.upto m + j - 1 := by omega
                rw [hai] at hcl
                have hub := HU.out (b.upto m + j + k)
                have hnum := num.out (b.upto m + j + k)
                obtain ⟨ta, ha⟩ : ∃ ta, b.upto m + j = ta := ⟨_, rfl⟩
                have HAe := Lib.hid ha
                rw [ha] at hcl hxe ha12 ha1 hub hnum ⊢
                obtain ⟨uu, huu⟩ : ∃ v, u (ta + k) = v := ⟨_, rfl⟩
                rw [huu] at hub hxe hnum
                obtain ⟨pv, hpv⟩ : ∃ v, hT b u m (j - 1) = v := ⟨_, rfl⟩
                rw [hpv] at hcl hxe hpb
                obtain ⟨rr, hrr⟩ : ∃ v, uu % (b.hi - b.lo + 1) = v := ⟨_, rfl⟩
                have hr1 := Int.emod_nonneg uu (show b.hi - b.lo + 1 ≠ 0 by omega)
                have hr2 := Int.emod_lt_of_pos uu (show 0 < b.hi - b.lo + 1 by omega)
                have hrem : uu.tmod (b.hi - b.lo + 1) = rr := by rw [Int.tmod_eq_emod_of_nonneg (by omega)]; exact hrr
                rw [hrr] at hxe hr1 hr2
                have hpb2 : pv ≤ 600 := by omega
                have hpb1 := hpb.1
                have hne0 : ¬ b.hi - b.lo + 1 = 0 := by omega
                have hwa : IntKind.i64.wrap ((ta : Int) - 1) = (ta : Int) - 1 := IntWalk.i64_in _ (by omega)
                have hta : ((ta : Int) - 1).toNat = ta - 1 := by omega
                have ha0 : (0 : Int) ≤ (ta : Int) - 1 := by omega
                have ha0' : (1 : Int) ≤ (ta : Int) := by omega
                have hal : (ta : Int) - 1 < ta := by omega
                have hwk : IntKind.i64.wrap ((ta : Int) + k) = (ta : Int) + k := IntWalk.i64_in _ (by omega)
                have hwd : IntKind.i64.wrap (b.hi - b.lo) = b.hi - b.lo := IntWalk.i64_in _ (by omega)
                have hwd1 : IntKind.i64.wrap (b.hi - b.lo + 1) = b.hi - b.lo + 1 := IntWalk.i64_in _ (by omega)
                have hwp : IntKind.i64.wrap (pv + b.lo) = pv + b.lo := IntWalk.i64_in _ (by omega)
                have hwx : IntKind.i64.wrap (pv + b.lo + rr) = xv := by rw [← hxe]; exact IntWalk.i64_in _ (by omega)
                have HPw1 : Hid (Pure w wr) := HP1.out
                have hnum' : Hid (∀ W, Pure w W → Calls Tryd.prog 88 #[.slice q n c, .int .i64 ((ta : Int) + k)] W fun e w' => e = .returned (.int .i64 uu) ∧ W = w') := fun W hW => hnum _ W (by push_cast; rfl) (by omega) hW
                have htgl : tg < wr.heap.size := (HJJ.out.ti.lt tg rfl).2
                clear hnl hxe hai ha hub hnum huu hpv hrr hr1 hr2 hpb hpb2 hpb1 hlo0 hlohi hhi50 ha12 ha1
                go_wp2_with fail
                refine reg_invW (fun d a W => a = { tmps := #[bookV b (some { block := sb, off := so }) cap, Value.slice q n c, Value.pointer (some { block := g0, off := 0 }), undef, Value.pointer (some { block := g1, off := 0 }), Value.slice none 0 0, Value.slice none 0 0, Value.pointer (some { block := g2, off := 0 }), Value.slice (some { block := gs, off := 0 }) k cs, Value.slice (some { block := tg, off := 0 }) ta tc, Value.int IntKind.i64 (k : Int), Value.int IntKind.i64 (m : Int), lv, Value.int IntKind.i64 (j : Int), (bif d 27 then Value.int IntKind.i64 (xv) else Value.int IntKind.i64 0), u15, u16, Value.pointer (some { block := g0, off := 0 }), Value.agg #[Value.int IntKind.i64 b.lo, Value.int IntKind.i64 b.hi], Value.pointer (some { block := g0, off := 2 }), Value.int IntKind.i64 b.lots, Value.agg #[Value.int IntKind.i64 b.lo, Value.int IntKind.i64 b.hi, Value.int IntKind.i64 b.lots, Value.slice none 0 0], Value.int IntKind.i64 (k : Int), Value.pointer (some { block := g0, off := 2 }), Value.int IntKind.i64 (k : Int), Value.bool false, u26, u27, u28, u29, u30, u31, u32, u33, u34, Value.int IntKind.i64 (m : Int), Value.pointer (some { block := g0, off := 3 }), Value.slice (some { block := sb, off := so }) b.n cap, Value.int IntKind.i64 (b.n : Int), Value.bool true, u40, u41, Value.int IntKind.i64 (j : Int), Value.pointer (some { block := g0, off := 3 }), Value.slice (some { block := sb, off := so }) b.n cap, Value.int IntKind.i64 (m : Int), Value.pointer (some { block := sb, off := so + m }), Value.slice (some { block := tb, off := to' }) (b.m m) sc, Value.int IntKind.i64 ↑(b.m m), Value.bool true, u50, u51, Value.int IntKind.i64 (j : Int), Value.bool (decide (0 < j)), (bif d 0 then Value.slice (some { block := tg, off := 0 }) ta tc else u54), (bif d 1 then Value.slice (some { block := tg, off := 0 }) ta tc else u55), (bif d 2 then Value.int IntKind.i64 ((ta : Int)) else u56), (bif d 3 then Value.int IntKind.i64 ((ta : Int) - 1) else u57), (bif d 4 then Value.pointer (some { block := tg, off := ta - 1 }) else u58), (bif d 5 then Value.int IntKind.i64 (pv) else u59), (bif d 6 then Value.pointer (some { block := g0, off := 0 }) else u60), (bif d 7 then Value.pointer (some { block := g0, off := 0 }) else u61), (bif d 8 then Value.int IntKind.i64 (b.lo) else u62), (bif d 9 then Value.int IntKind.i64 (pv + b.lo) else u63), (bif d 10 then Value.slice q n c else u64), (bif d 11 then Value.slice (some { block := tg, off := 0 }) ta tc else u65), (bif d 12 then Value.int IntKind.i64 ((ta : Int)) else u66), (bif d 13 then Value.pointer (some { block := g0, off := 2 }) else u67), (bif d 14 then Value.int IntKind.i64 ((k : Int)) else u68), (bif d 15 then Value.int IntKind.i64 ((ta : Int) + (k : Int)) else u69), (bif d 16 then Value.int IntKind.i64 (uu) else u70), (bif d 17 then Value.pointer (some { block := g0, off := 0 }) else u71), (bif d 18 then Value.pointer (some { block := g0, off := 1 }) else u72), (bif d 19 then Value.int IntKind.i64 (b.hi) else u73), (bif d 20 then Value.pointer (some { block := g0, off := 0 }) else u74), (bif d 21 then Value.pointer (some { block := g0, off := 0 }) else u75), (bif d 22 then Value.int IntKind.i64 (b.lo) else u76), (bif d 23 then Value.int IntKind.i64 (b.hi - b.lo) else u77), (bif d 24 then Value.int IntKind.i64 (b.hi - b.lo + 1) else u78), (bif d 25 then Value.int IntKind.i64 (rr) else u79), (bif d 26 then Value.int IntKind.i64 (xv) else u80), u81, u82, u83, u84, u85, u86, u87, u88, u89, u90, u91, u92, u93, u94, u95, u96, u97, u98, u99, u100, u101, u102, u103, u104, u105, u106, u107, u108, u109, u110, u111, u112, u113, u114, u115, u116, u117, u118, u119, u120, u121, u122, undef, undef, undef], defers := [] } ∧ Hid (Pure wr W)) hmx (by kernel_rfl) ?_ ?_ ?_
                · exact ⟨by simp [hj1n], (Diff.refl wr).drew⟩
                · refine ⟨?_, ?_, ?_, ?_, ?_, ?_, ?_, ?_, ?_, ?_, ?_, ?_, ?_, ?_, ?_, ?_, ?_, ?_, ?_, ?_, ?_, ?_, ?_, ?_, ?_, ?_, ?_, ?_, trivial⟩
                  · rintro d a W hdi hdep hcl ⟨rfl, hw⟩ K hK
                    have E := hcl.facts 0 hdi rfl hdep [] [4, 5, 9, 26, 27] (by kernel_rfl) (by kernel_rfl)
                    simp only [AllT, AllF] at E
                    clear hdi hdep hcl
                    go_simp
                    exact hK _ _ ⟨by simp [upd, E, hj1n], hw⟩
                  · rintro d a W hdi hdep hcl ⟨rfl, hw⟩ K hK
                    have E := hcl.facts 1 hdi rfl hdep [] [2, 3, 4, 5, 9, 26, 27] (by kernel_rfl) (by kernel_rfl)
                    simp only [AllT, AllF] at E
                    clear hdi hdep hcl
                    go_simp
                    exact hK _ _ ⟨by simp [upd, E, hj1n], hw⟩
                  · rintro d a W hdi hdep hcl ⟨rfl, hw⟩ K hK
                    have E := hcl.facts 2 hdi rfl hdep [1] [3, 4, 5, 9, 26, 27] (by kernel_rfl) (by kernel_rfl)
                    simp only [AllT, AllF] at E
                    clear hdi hdep hcl
                    go_simp
                    exact hK _ _ ⟨by simp [upd, E, hj1n], hw⟩
                  · rintro d a W hdi hdep hcl ⟨rfl, hw⟩ K hK
                    have E := hcl.facts 3 hdi rfl hdep [1, 2] [4, 5, 9, 26, 27] (by kernel_rfl) (by kernel_rfl)
                    simp only [AllT, AllF] at E
                    clear hdi hdep hcl
                    go_simp
                    exact hK _ _ ⟨by simp [upd, E, hj1n], hw⟩
                  · rintro d a W hdi hdep hcl ⟨rfl, hw⟩ K hK
                    have E := hcl.facts 4 hdi rfl hdep [0, 1, 2, 3] [5, 9, 26, 27] (by kernel_rfl) (by kernel_rfl)
                    simp only [AllT, AllF] at E
                    clear hdi hdep hcl
                    go_simp
                    exact hK _ _ ⟨by simp [upd, E, hj1n], hw⟩
                  · rintro d a W hdi hdep hcl ⟨rfl, hw⟩ K hK
                    have E := hcl.facts 5 hdi rfl hdep [0, 1, 2, 3, 4] [9, 26, 27] (by kernel_rfl) (by kernel_rfl)
                    simp only [AllT, AllF] at E
                    clear hdi hdep hcl
                    have z := ((pcell hw.out).1 _ _ htgl).trans hcl
                    go_simp
                    exact hK _ _ ⟨by simp [upd, E, hj1n], hw⟩
                  · rintro d a W hdi hdep hcl ⟨rfl, hw⟩ K hK
                    have E := hcl.facts 6 hdi rfl hdep [] [7, 8, 9, 26, 27] (by kernel_rfl) (by kernel_rfl)
                    simp only [AllT, AllF] at E
                    clear hdi hdep hcl
                    go_simp
                    exact hK _ _ ⟨by simp [upd, E, hj1n], hw⟩
                  · rintro d a W hdi hdep hcl ⟨rfl, hw⟩ K hK
                    have E := hcl.facts 7 hdi rfl hdep [6] [8, 9, 26, 27] (by kernel_rfl) (by kernel_rfl)
                    simp only [AllT, AllF] at E
                    clear hdi hdep hcl
                    go_simp
                    exact hK _ _ ⟨by simp [upd, E, hj1n], hw⟩
                  · rintro d a W hdi hdep hcl ⟨rfl, hw⟩ K hK
                    have E := hcl.facts 8 hdi rfl hdep [6, 7] [9, 26, 27] (by kernel_rfl) (by kernel_rfl)
                    simp only [AllT, AllF] at E
                    clear hdi hdep hcl
                    obtain ⟨c0, c1, c2, c3, -⟩ := hd1.out.pure hw.out
                    rw [HL.out] at c2
                    go_simp
                    exact hK _ _ ⟨by simp [upd, E, hj1n], hw⟩
                  · rintro d a W hdi hdep hcl ⟨rfl, hw⟩ K hK
                    have E := hcl.facts 9 hdi rfl hdep [0, 1, 2, 3, 4, 5, 6, 7, 8] [26, 27] (by kernel_rfl) (by kernel_rfl)
                    simp only [AllT, AllF] at E
                    clear hdi hdep hcl
                    go_simp
                    exact hK _ _ ⟨by simp [upd, E, hj1n], hw⟩
                  · rintro d a W hdi hdep hcl ⟨rfl, hw⟩ K hK
                    have E := hcl.facts 10 hdi rfl hdep [] [16, 25, 26, 27] (by kernel_rfl) (by kernel_rfl)
                    simp only [AllT, AllF] at E
                    clear hdi hdep hcl
                    go_simp
                    exact hK _ _ ⟨by simp [upd, E, hj1n], hw⟩
                  · rintro d a W hdi hdep hcl ⟨rfl, hw⟩ K hK
                    have E := hcl.facts 11 hdi rfl hdep [] [12, 15, 16, 25, 26, 27] (by kernel_rfl) (by kernel_rfl)
                    simp only [AllT, AllF] at E
                    clear hdi hdep hcl
                    go_simp
                    exact hK _ _ ⟨by simp [upd, E, hj1n], hw⟩
                  · rintro d a W hdi hdep hcl ⟨rfl, hw⟩ K hK
                    have E := hcl.facts 12 hdi rfl hdep [11] [15, 16, 25, 26, 27] (by kernel_rfl) (by kernel_rfl)
                    simp only [AllT, AllF] at E
                    clear hdi hdep hcl
                    go_simp
                    exact hK _ _ ⟨by simp [upd, E, hj1n], hw⟩
                  · rintro d a W hdi hdep hcl ⟨rfl, hw⟩ K hK
                    have E := hcl.facts 13 hdi rfl hdep [] [14, 15, 16, 25, 26, 27] (by kernel_rfl) (by kernel_rfl)
                    simp only [AllT, AllF] at E
                    clear hdi hdep hcl
                    go_simp
                    exact hK _ _ ⟨by simp [upd, E, hj1n], hw⟩
                  · rintro d a W hdi hdep hcl ⟨rfl, hw⟩ K hK
                    have E := hcl.facts 14 hdi rfl hdep [13] [15, 16, 25, 26, 27] (by kernel_rfl) (by kernel_rfl)
                    simp only [AllT, AllF] at E
                    clear hdi hdep hcl
                    obtain ⟨c0, c1, c2, c3, -⟩ := hd1.out.pure hw.out
                    rw [HL.out] at c2
                    go_simp
                    exact hK _ _ ⟨by simp [upd, E, hj1n], hw⟩
                  · rintro d a W hdi hdep hcl ⟨rfl, hw⟩ K hK
                    have E := hcl.facts 15 hdi rfl hdep [11, 12, 13, 14] [16, 25, 26, 27] (by kernel_rfl) (by kernel_rfl)
                    simp only [AllT, AllF] at E
                    clear hdi hdep hcl
                    go_simp
                    exact hK _ _ ⟨by simp [upd, E, hj1n], hw⟩
                  · rintro d a W hdi hdep hcl ⟨rfl, hw⟩ K hK
                    have E := hcl.facts 16 hdi rfl hdep [10, 11, 12, 13, 14, 15] [25, 26, 27] (by kernel_rfl) (by kernel_rfl)
                    simp only [AllT, AllF] at E
                    clear hdi hdep hcl
                    go_simp
                    refine (hnum'.out W (HP1.out.trans hw.out)).mono ?_
                    rintro e w6 ⟨rfl, rfl⟩
                    exact hK _ _ ⟨by simp [upd, E, hj1n], hw⟩
                  · rintro d a W hdi hdep hcl ⟨rfl, hw⟩ K hK
                    have E := hcl.facts 17 hdi rfl hdep [] [18, 19, 23, 24, 25, 26, 27] (by kernel_rfl) (by kernel_rfl)
                    simp only [AllT, AllF] at E
                    clear hdi hdep hcl
                    go_simp
                    exact hK _ _ ⟨by simp [upd, E, hj1n], hw⟩
                  · rintro d a W hdi hdep hcl ⟨rfl, hw⟩ K hK
                    have E := hcl.facts 18 hdi rfl hdep [17] [19, 23, 24, 25, 26, 27] (by kernel_rfl) (by kernel_rfl)
                    simp only [AllT, AllF] at E
                    clear hdi hdep hcl
                    go_simp
                    exact hK _ _ ⟨by simp [upd, E, hj1n], hw⟩
                  · rintro d a W hdi hdep hcl ⟨rfl, hw⟩ K hK
                    have E := hcl.facts 19 hdi rfl hdep [17, 18] [23, 24, 25, 26, 27] (by kernel_rfl) (by kernel_rfl)
                    simp only [AllT, AllF] at E
                    clear hdi hdep hcl
                    obtain ⟨c0, c1, c2, c3, -⟩ := hd1.out.pure hw.out
                    rw [HL.out] at c2
                    go_simp
                    exact hK _ _ ⟨by simp [upd, E, hj1n], hw⟩
                  · rintro d a W hdi hdep hcl ⟨rfl, hw⟩ K hK
                    have E := hcl.facts 20 hdi rfl hdep [] [21, 22, 23, 24, 25, 26, 27] (by kernel_rfl) (by kernel_rfl)
                    simp only [AllT, AllF] at E
                    clear hdi hdep hcl
                    go_simp
                    exact hK _ _ ⟨by simp [upd, E, hj1n], hw⟩
                  · rintro d a W hdi hdep hcl ⟨rfl, hw⟩ K hK
                    have E := hcl.facts 21 hdi rfl hdep [20] [22, 23, 24, 25, 26, 27] (by kernel_rfl) (by kernel_rfl)
                    simp only [AllT, AllF] at E
                    clear hdi hdep hcl
                    go_simp
                    exact hK _ _ ⟨by simp [upd, E, hj1n], hw⟩
                  · rintro d a W hdi hdep hcl ⟨rfl, hw⟩ K hK
                    have E := hcl.facts 22 hdi rfl hdep [20, 21] [23, 24, 25, 26, 27] (by kernel_rfl) (by kernel_rfl)
                    simp only [AllT, AllF] at E
                    clear hdi hdep hcl
                    obtain ⟨c0, c1, c2, c3, -⟩ := hd1.out.pure hw.out
                    rw [HL.out] at c2
                    go_simp
                    exact hK _ _ ⟨by simp [upd, E, hj1n], hw⟩
                  · rintro d a W hdi hdep hcl ⟨rfl, hw⟩ K hK
                    have E := hcl.facts 23 hdi rfl hdep [17, 18, 19, 20, 21, 22] [24, 25, 26, 27] (by kernel_rfl) (by kernel_rfl)
                    simp only [AllT, AllF] at E
                    clear hdi hdep hcl
                    go_simp
                    exact hK _ _ ⟨by simp [upd, E, hj1n], hw⟩
                  · rintro d a W hdi hdep hcl ⟨rfl, hw⟩ K hK
                    have E := hcl.facts 24 hdi rfl hdep [17, 18, 19, 20, 21, 22, 23] [25, 26, 27] (by kernel_rfl) (by kernel_rfl)
                    simp only [AllT, AllF] at E
                    clear hdi hdep hcl
                    go_simp
                    exact hK _ _ ⟨by simp [upd, E, hj1n], hw⟩
                  · rintro d a W hdi hdep hcl ⟨rfl, hw⟩ K hK
                    have E := hcl.facts 25 hdi rfl hdep [10, 11, 12, 13, 14, 15, 16, 17, 18, 19, 20, 21, 22, 23, 24] [26, 27] (by kernel_rfl) (by kernel_rfl)
                    simp only [AllT, AllF] at E
                    clear hdi hdep hcl
                    go_simp
                    exact hK _ _ ⟨by simp [upd, E, hj1n], hw⟩
                  · rintro d a W hdi hdep hcl ⟨rfl, hw⟩ K hK
                    have E := hcl.facts 26 hdi rfl hdep [0, 1, 2, 3, 4, 5, 6, 7, 8, 9, 10, 11, 12, 13, 14, 15, 16, 17, 18, 19, 20, 21, 22, 23, 24, 25] [27] (by kernel_rfl) (by kernel_rfl)
                    simp only [AllT, AllF] at E
                    clear hdi hdep hcl
                    go_simp
                    exact hK _ _ ⟨by simp [upd, E, hj1n], hw⟩
                  · rintro d a W hdi hdep hcl ⟨rfl, hw⟩ K hK
                    have E := hcl.facts 27 hdi rfl hdep [0, 1, 2, 3, 4, 5, 6, 7, 8, 9, 10, 11, 12, 13, 14, 15, 16, 17, 18, 19, 20, 21, 22, 23, 24, 25, 26] [] (by kernel_rfl) (by kernel_rfl)
                    simp only [AllT, AllF] at E
                    clear hdi hdep hcl
                    go_simp
                    exact hK _ _ ⟨by simp [upd, E, hj1n], hw⟩
                · rintro d a W hall ⟨rfl, hw⟩
                  have E := AllT.all hall [0, 1, 2, 3, 4, 5, 6, 7, 8, 9, 10, 11, 12, 13, 14, 15, 16, 17, 18, 19, 20, 21, 22, 23, 24, 25, 26, 27] (by kernel_rfl)
                  simp only [AllT] at E
                  simp only [E, cond_true] at hw ⊢
                  clear E hall
                  clear c0 c1 c2 c3 cl
                  obtain ⟨c0, c1, c2, c3, cl⟩ := hd1.out.pure hw.out
                  rw [HL.out] at c2
                  have y0W := ((pcell hw.out).1 _ _ htl).trans y0
                  have y1W := ((pcell hw.out).1 _ _ htl).trans y1
                  have y2W := ((pcell hw.out).1 _ _ htl).trans y2
                  have ysW := ((pcell hw.out).1 _ _ hgl).trans ys
                  have zcW := ((pcell (HP1.out.trans hw.out)).1 _ _ hsb).trans HC.out
                  have hWs := hw.out.size
                  have htlW : tb < W.heap.size := by omega
                  have hglW : gs < W.heap.size := by omega
                  go_wp2_with fail
                  obtain ⟨V0, rfl⟩ : ∃ V0 : World, V0 = W := ⟨_, rfl⟩
                  have HV0 : Hid (Pure wr V0) := hw
                  obtain ⟨sy, hsye⟩ : ∃ s, vs - xv = s := ⟨_, rfl⟩
                  have HSY : Hid (hS u lt - hT b u m j = sy) := by show _ = _; rw [HV.out.1, HV.out.2.2.2.1]; exact hsye
                  have HXV : Hid (hT b u m j = xv) := HV.out.2.2.2.1
                  rw [hsye]
                  obtain ⟨V, hV⟩ : ∃ V, V0.alloc (.cells #[.int .i64 (lt : Int), .int .i64 slo, .int .i64 shi] 70) = V := ⟨_, rfl⟩
                  have hpV : Pure V0 V := by rw [← hV]; exact (Diff.refl V0).alloc _
                  have hXx : V.heap[V0.heap.size]? = some (.cells #[.int .i64 (lt : Int), .int .i64 slo, .int .i64 shi] 70 (0, 0)) := by rw [← hV]; exact World.alloc_heap_new _ _
                  obtain ⟨gx, hgx⟩ : ∃ g, V0.heap.size = g := ⟨_, rfl⟩
                  rw [hV]
                  rw [hgx] at hXx ⊢
                  have HX0 : Hid (V.cell? ⟨gx, 0, none⟩ = some (.int .i64 (lt : Int))) := by show _ = _; rw [cell_of_row V _ _ _ _ _ hXx]; rfl
                  have HX1 : Hid (V.cell? ⟨gx, 1, none⟩ = some (.int .i64 slo)) := by show _ = _; rw [cell_of_row V _ _ _ _ _ hXx]; rfl
                  have HX2 : Hid (V.cell? ⟨gx, 2, none⟩ = some (.int .i64 shi)) := by show _ = _; rw [cell_of_row V _ _ _ _ _ hXx]; rfl
                  have HXl : Hid (gx < V.heap.size) := (Array.getElem?_eq_some_iff.1 hXx).1
                  have HVr : Hid (Pure wr V) := HV0.out.trans hpV
                  have HLL : Hid (V.ownsRow wo.heap.size 70 3 lv j ((heldB b u).rowC m j)) := own_pure HJJ.out.ll HVr.out
                  have HWO : Hid (wo.heap.size ≤ V.heap.size) := Nat.le_trans HJJ.out.df.size HVr.out.size
                  have HROW : Hid ((heldB b u).rowC m j ++ #[.int .i64 (lt : Int), .int .i64 (if sy < slo then sy else slo), .int .i64 (if shi < sy then sy else shi)].toList = (heldB b u).rowC m (j + 1)) := by
                    show _ = _
                    simp only [BK.rowC]
                    congr 1
                    have hl : (heldT b u m j).lot = (lt : Int) := HV.out.2.2.2.2
                    have h1 : (heldT b u m j).lo = if sy < slo then sy else slo := by
                      show min (b.t m j).lo (hS u (b.t m j).lot.toNat - hT b u m j) = _
                      rw [HV.out.2.2.2.2, Int.toNat_natCast, HSY.out, HV.out.2.1]
                      split <;> omega
                    have h2 : (heldT b u m j).hi = if shi < sy then sy else shi := by
                      show max (b.t m j).hi (hS u (b.t m j).lot.toNat - hT b u m j) = _
                      rw [HV.out.2.2.2.2, Int.toNat_natCast, HSY.out, HV.out.2.2.1]
                      split <;> omega
                    show _ = [Value.int .i64 (heldT b u m j).lot, Value.int .i64 (heldT b u m j).lo, Value.int .i64 (heldT b u m j).hi]
                    rw [hl, h1, h2]
                  clear hV hXx hgx hpV
                  have HVe := Lib.hid hsye
                  clear hsye hw
                  refine reg_invW (fun d a W => ∃ (sb2 : Nat) (v2 : Value), a = { tmps := #[bookV b (some { block := sb, off := so }) cap, Value.slice q n c, Value.pointer (some { block := g0, off := 0 }), undef, Value.pointer (some { block := g1, off := 0 }), Value.slice none 0 0, Value.slice none 0 0, Value.pointer (some { block := g2, off := 0 }), Value.slice (some { block := gs, off := 0 }) k cs, Value.slice (some { block := tg, off := 0 }) ta tc, Value.int IntKind.i64 (k : Int), Value.int IntKind.i64 (m : Int), (bif d 17 then v2 else lv), Value.int IntKind.i64 (j : Int), Value.int IntKind.i64 xv, Value.pointer (some { block := gx, off := 0 }), Value.int IntKind.i64 (sy), Value.pointer (some { block := g0, off := 0 }), Value.agg #[Value.int IntKind.i64 b.lo, Value.int IntKind.i64 b.hi], Value.pointer (some { block := g0, off := 2 }), Value.int IntKind.i64 b.lots, Value.agg #[Value.int IntKind.i64 b.lo, Value.int IntKind.i64 b.hi, Value.int IntKind.i64 b.lots, Value.slice none 0 0], Value.int IntKind.i64 (k : Int), Value.pointer (some { block := g0, off := 2 }), Value.int IntKind.i64 (k : Int), Value.bool false, u26, u27, u28, u29, u30, u31, u32, u33, u34, Value.int IntKind.i64 (m : Int), Value.pointer (some { block := g0, off := 3 }), Value.slice (some { block := sb, off := so }) b.n cap, Value.int IntKind.i64 (b.n : Int), Value.bool true, u40, u41, Value.int IntKind.i64 (j : Int), Value.pointer (some { block := g0, off := 3 }), Value.slice (some { block := sb, off := so }) b.n cap, Value.int IntKind.i64 (m : Int), Value.pointer (some { block := sb, off := so + m }), Value.slice (some { block := tb, off := to' }) (b.m m) sc, Value.int IntKind.i64 ↑(b.m m), Value.bool true, u50, u51, Value.int IntKind.i64 (j : Int), Value.bool (decide (0 < j)), Value.slice (some { block := tg, off := 0 }) ta tc, Value.slice (some { block := tg, off := 0 }) ta tc, Value.int IntKind.i64 (ta : Int), Value.int IntKind.i64 ((ta : Int) - 1), Value.pointer (some { block := tg, off := ta - 1 }), Value.int IntKind.i64 pv, Value.pointer (some { block := g0, off := 0 }), Value.pointer (some { block := g0, off := 0 }), Value.int IntKind.i64 b.lo, Value.int IntKind.i64 (pv + b.lo), Value.slice q n c, Value.slice (some { block := tg, off := 0 }) ta tc, Value.int IntKind.i64 (ta : Int), Value.pointer (some { block := g0, off := 2 }), Value.int IntKind.i64 (k : Int), Value.int IntKind.i64 ((ta : Int) + (k : Int)), Value.int IntKind.i64 uu, Value.pointer (some { block := g0, off := 0 }), Value.pointer (some { block := g0, off := 1 }), Value.int IntKind.i64 b.hi, Value.pointer (some { block := g0, off := 0 }), Value.pointer (some { block := g0, off := 0 }), Value.int IntKind.i64 b.lo, Value.int IntKind.i64 (b.hi - b.lo), Value.int IntKind.i64 (b.hi - b.lo + 1), Value.int IntKind.i64 rr, Value.int IntKind.i64 xv, Value.pointer (some { block := g0, off := 3 }), Value.slice (some { block := sb, off := so }) b.n cap, Value.int IntKind.i64 (m : Int), Value.pointer (some { block := sb, off := so + m }), Value.slice (some { block := tb, off := to' }) (b.m m) sc, Value.int IntKind.i64 (j : Int), Value.pointer (some { block := tb, off := to' + j * 3 }), Value.agg #[Value.int IntKind.i64 (lt : Int), Value.int IntKind.i64 slo, Value.int IntKind.i64 shi], Value.slice (some { block := gs, off := 0 }) k cs, Value.pointer (some { block := gx, off := 0 }), Value.int IntKind.i64 (lt : Int), Value.pointer (some { block := gs, off := lt }), Value.int IntKind.i64 vs, Value.int IntKind.i64 xv, Value.int IntKind.i64 (sy), (bif d 0 then lv else u96), (bif d 1 then Value.pointer (some { block := gx, off := 0 }) else u97), (bif d 2 then Value.int IntKind.i64 ((lt : Int)) else u98), (bif d 3 then Value.pointer (some { block := gx, off := 1 }) else u99), (bif d 4 then Value.pointer (some { block := gx, off := 1 }) else u100), (bif d 5 then Value.int IntKind.i64 (slo) else u101), (bif d 6 then Value.int IntKind.i64 (sy) else u102), (bif d 7 then Value.int IntKind.i64 (if sy < slo then sy else slo) else u103), (bif d 8 then Value.pointer (some { block := gx, off := 1 }) else u104), (bif d 9 then Value.pointer (some { block := gx, off := 2 }) else u105), (bif d 10 then Value.int IntKind.i64 (shi) else u106), (bif d 11 then Value.int IntKind.i64 (sy) else u107), (bif d 12 then Value.int IntKind.i64 (if shi < sy then sy else shi) else u108), (bif d 13 then Value.agg #[Value.int IntKind.i64 (if sy < slo then sy else slo), Value.int IntKind.i64 (if shi < sy then sy else shi)] else u109), (bif d 14 then Value.agg #[Value.int IntKind.i64 ((lt : Int)), Value.int IntKind.i64 (if sy < slo then sy else slo), Value.int IntKind.i64 (if shi < sy then sy else shi)] else u110), (bif d 15 then Value.slice (some { block := sb2, off := 0 }) 1 1 else u111), (bif d 16 then v2 else u112), u113, u114, u115, u116, u117, u118, u119, u120, u121, u122, undef, undef, undef], defers := [] } ∧ (d 16 = false → Hid (Pure V W)) ∧ (d 15 = true → d 16 = false → Hid (W.heap[sb2]? = some (.cells #[.int .i64 (lt : Int), .int .i64 (if sy < slo then sy else slo), .int .i64 (if shi < sy then sy else shi)] 70 (0, 0)))) ∧ (d 16 = true → (∃ g c, v2 = .slice (some ⟨g, 0, none⟩) (j + 1) c) ∧ Hid (W.ownsRow wo.heap.size 70 3 v2 (j + 1) ((heldB b u).rowC m (j + 1))) ∧ Hid (Diff (fun x => some x = lv.ownBlock) V W))) hmx (by kernel_rfl) ?_ ?_ ?_
                  · exact ⟨0, undef, by simp [hj1n], (fun _ => (Diff.refl V).drew), (fun h => by cases h), (fun h => by cases h)⟩
                  · refine ⟨?_, ?_, ?_, ?_, ?_, ?_, ?_, ?_, ?_, ?_, ?_, ?_, ?_, ?_, ?_, ?_, ?_, ?_, trivial⟩
                    · rintro d a W hdi hdep hcl ⟨sb2, v2, rfl, hw⟩ K hK
                      have E := hcl.facts 0 hdi rfl hdep [] [16, 17] (by kernel_rfl) (by kernel_rfl)
                      simp only [AllT, AllF] at E
                      clear hdi hdep hcl
                      go_simp
                      exact hK _ _ ⟨sb2, v2, by simp [upd, E, hj1n], by simpa [upd, E] using hw⟩
                    · rintro d a W hdi hdep hcl ⟨sb2, v2, rfl, hw⟩ K hK
                      have E := hcl.facts 1 hdi rfl hdep [] [2, 14, 15, 16, 17] (by kernel_rfl) (by kernel_rfl)
                      simp only [AllT, AllF] at E
                      clear hdi hdep hcl
                      go_simp
                      exact hK _ _ ⟨sb2, v2, by simp [upd, E, hj1n], by simpa [upd, E] using hw⟩
                    · rintro d a W hdi hdep hcl ⟨sb2, v2, rfl, hw⟩ K hK
                      have E := hcl.facts 2 hdi rfl hdep [1] [14, 15, 16, 17] (by kernel_rfl) (by kernel_rfl)
                      simp only [AllT, AllF] at E
                      clear hdi hdep hcl
                      have hpW := (hw.1 (by simp [E])).out
                      have hx0 := ((pcell hpW).1 _ _ HXl.out).trans HX0.out
                      have hx1 := ((pcell hpW).1 _ _ HXl.out).trans HX1.out
                      have hx2 := ((pcell hpW).1 _ _ HXl.out).trans HX2.out
                      go_simp
                      exact hK _ _ ⟨sb2, v2, by simp [upd, E, hj1n], by simpa [upd, E] using hw⟩
                    · rintro d a W hdi hdep hcl ⟨sb2, v2, rfl, hw⟩ K hK
                      have E := hcl.facts 3 hdi rfl hdep [] [4, 5, 7, 13, 14, 15, 16, 17] (by kernel_rfl) (by kernel_rfl)
                      simp only [AllT, AllF] at E
                      clear hdi hdep hcl
                      go_simp
                      exact hK _ _ ⟨sb2, v2, by simp [upd, E, hj1n], by simpa [upd, E] using hw⟩
                    · rintro d a W hdi hdep hcl ⟨sb2, v2, rfl, hw⟩ K hK
                      have E := hcl.facts 4 hdi rfl hdep [3] [5, 7, 13, 14, 15, 16, 17] (by kernel_rfl) (by kernel_rfl)
                      simp only [AllT, AllF] at E
                      clear hdi hdep hcl
                      go_simp
                      exact hK _ _ ⟨sb2, v2, by simp [upd, E, hj1n], by simpa [upd, E] using hw⟩
                    · rintro d a W hdi hdep hcl ⟨sb2, v2, rfl, hw⟩ K hK
                      have E := hcl.facts 5 hdi rfl hdep [3, 4] [7, 13, 14, 15, 16, 17] (by kernel_rfl) (by kernel_rfl)
                      simp only [AllT, AllF] at E
                      clear hdi hdep hcl
                      have hpW := (hw.1 (by simp [E])).out
                      have hx0 := ((pcell hpW).1 _ _ HXl.out).trans HX0.out
                      have hx1 := ((pcell hpW).1 _ _ HXl.out).trans HX1.out
                      have hx2 := ((pcell hpW).1 _ _ HXl.out).trans HX2.out
                      go_simp
                      exact hK _ _ ⟨sb2, v2, by simp [upd, E, hj1n], by simpa [upd, E] using hw⟩
                    · rintro d a W hdi hdep hcl ⟨sb2, v2, rfl, hw⟩ K hK
                      have E := hcl.facts 6 hdi rfl hdep [] [7, 13, 14, 15, 16, 17] (by kernel_rfl) (by kernel_rfl)
                      simp only [AllT, AllF] at E
                      clear hdi hdep hcl
                      go_simp
                      exact hK _ _ ⟨sb2, v2, by simp [upd, E, hj1n], by simpa [upd, E] using hw⟩
                    · rintro d a W hdi hdep hcl ⟨sb2, v2, rfl, hw⟩ K hK
                      have E := hcl.facts 7 hdi rfl hdep [3, 4, 5, 6] [13, 14, 15, 16, 17] (by kernel_rfl) (by kernel_rfl)
                      simp only [AllT, AllF] at E
                      clear hdi hdep hcl
                      go_simp
                      exact hK _ _ ⟨sb2, v2, by simp [upd, E, hj1n], by simpa [upd, E] using hw⟩
                    · rintro d a W hdi hdep hcl ⟨sb2, v2, rfl, hw⟩ K hK
                      have E := hcl.facts 8 hdi rfl hdep [] [9, 10, 12, 13, 14, 15, 16, 17] (by kernel_rfl) (by kernel_rfl)
                      simp only [AllT, AllF] at E
                      clear hdi hdep hcl
                      go_simp
                      exact hK _ _ ⟨sb2, v2, by simp [upd, E, hj1n], by simpa [upd, E] using hw⟩
                    · rintro d a W hdi hdep hcl ⟨sb2, v2, rfl, hw⟩ K hK
                      have E := hcl.facts 9 hdi rfl hdep [8] [10, 12, 13, 14, 15, 16, 17] (by kernel_rfl) (by kernel_rfl)
                      simp only [AllT, AllF] at E
                      clear hdi hdep hcl
                      go_simp
                      exact hK _ _ ⟨sb2, v2, by simp [upd, E, hj1n], by simpa [upd, E] using hw⟩
                    · rintro d a W hdi hdep hcl ⟨sb2, v2, rfl, hw⟩ K hK
                      have E := hcl.facts 10 hdi rfl hdep [8, 9] [12, 13, 14, 15, 16, 17] (by kernel_rfl) (by kernel_rfl)
                      simp only [AllT, AllF] at E
                      clear hdi hdep hcl
                      have hpW := (hw.1 (by simp [E])).out
                      have hx0 := ((pcell hpW).1 _ _ HXl.out).trans HX0.out
                      have hx1 := ((pcell hpW).1 _ _ HXl.out).trans HX1.out
                      have hx2 := ((pcell hpW).1 _ _ HXl.out).trans HX2.out
                      go_simp
                      exact hK _ _ ⟨sb2, v2, by simp [upd, E, hj1n], by simpa [upd, E] using hw⟩
                    · rintro d a W hdi hdep hcl ⟨sb2, v2, rfl, hw⟩ K hK
                      have E := hcl.facts 11 hdi rfl hdep [] [12, 13, 14, 15, 16, 17] (by kernel_rfl) (by kernel_rfl)
                      simp only [AllT, AllF] at E
                      clear hdi hdep hcl
                      go_simp
                      exact hK _ _ ⟨sb2, v2, by simp [upd, E, hj1n], by simpa [upd, E] using hw⟩
                    · rintro d a W hdi hdep hcl ⟨sb2, v2, rfl, hw⟩ K hK
                      have E := hcl.facts 12 hdi rfl hdep [8, 9, 10, 11] [13, 14, 15, 16, 17] (by kernel_rfl) (by kernel_rfl)
                      simp only [AllT, AllF] at E
                      clear hdi hdep hcl
                      go_simp
                      exact hK _ _ ⟨sb2, v2, by simp [upd, E, hj1n], by simpa [upd, E] using hw⟩
                    · rintro d a W hdi hdep hcl ⟨sb2, v2, rfl, hw⟩ K hK
                      have E := hcl.facts 13 hdi rfl hdep [3, 4, 5, 6, 7, 8, 9, 10, 11, 12] [14, 15, 16, 17] (by kernel_rfl) (by kernel_rfl)
                      simp only [AllT, AllF] at E
                      clear hdi hdep hcl
                      have hpW := (hw.1 (by simp [E])).out
                      go_simp
                      refine (to_any _ _ _).mono ?_
                      rintro e w6 ⟨rfl, hp6⟩
                      refine hK _ _ ⟨sb2, v2, by simp [upd, E, hj1n], fun _ => hpW.trans hp6, fun h => by simp [upd, E] at h, fun h => by simp [upd, E] at h⟩
                    · rintro d a W hdi hdep hcl ⟨sb2, v2, rfl, hw⟩ K hK
                      have E := hcl.facts 14 hdi rfl hdep [1, 2, 3, 4, 5, 6, 7, 8, 9, 10, 11, 12, 13] [15, 16, 17] (by kernel_rfl) (by kernel_rfl)
                      simp only [AllT, AllF] at E
                      clear hdi hdep hcl
                      go_simp
                      exact hK _ _ ⟨sb2, v2, by simp [upd, E, hj1n], by simpa [upd, E] using hw⟩
                    · rintro d a W hdi hdep hcl ⟨sb2, v2, rfl, hw⟩ K hK
                      have E := hcl.facts 15 hdi rfl hdep [1, 2, 3, 4, 5, 6, 7, 8, 9, 10, 11, 12, 13, 14] [16, 17] (by kernel_rfl) (by kernel_rfl)
                      simp only [AllT, AllF] at E
                      clear hdi hdep hcl
                      have hpW := (hw.1 (by simp [E])).out
                      go_simp
                      refine hK _ _ ⟨W.heap.size, v2, by simp [upd, E, hj1n], fun _ => hpW.alloc _, fun _ _ => World.alloc_heap_new _ _, fun h => by simp [upd, E] at h⟩
                    · rintro d a W hdi hdep hcl ⟨sb2, v2, rfl, hw⟩ K hK
                      have E := hcl.facts 16 hdi rfl hdep [0, 1, 2, 3, 4, 5, 6, 7, 8, 9, 10, 11, 12, 13, 14, 15] [17] (by kernel_rfl) (by kernel_rfl)
                      simp only [AllT, AllF] at E
                      clear hdi hdep hcl
                      have hpW := (hw.1 (by simp [E])).out
                      have h5 := (hw.2.1 (by simp [E]) (by simp [E])).out
                      have hlW : W.ownsRow wo.heap.size 70 3 lv j ((heldB b u).rowC m j) := own_pure HLL.out hpW
                      have hsV := hpW.size
                      obtain ⟨v', w', hr, q2, q3, -⟩ := run_append_own (P := Tryd.prog) W wo.heap.size 59 59 70 i7 (.agg #[.int .i64 0, .int .i64 0, .int .i64 0]) 3 24 Tryd.underlying59 hi7 hz7 hsz7 hby7 rfl (by omega) lv j ((heldB b u).rowC m j) hlW ⟨sb2, 0, none⟩ 1 1 #[.int .i64 (lt : Int), .int .i64 (if sy < slo then sy else slo), .int .i64 (if shi < sy then sy else shi)].toList rfl (fun q u' hq => by
                          have hadd : (⟨sb2, 0, none⟩ : Addr).add q = ⟨sb2, q, none⟩ := by unfold Addr.add; split <;> simp_all
                          rw [hadd, cell_of_row W _ _ _ _ _ h5]
                          match q with
                          | 0 => simpa using hq
                          | 1 => simpa using hq
                          | 2 => simpa using hq
                          | q + 3 => simp at hq) (by simp [Value.oneCell']) (by simp only [maxLen]; omega) (by omega) (by have := HWO.out; omega)
                      have hdW : Diff (fun x => some x = lv.ownBlock) V w' := Diff.trans (hpW.mono (fun _ _ h => h.elim)) ⟨q3.os, q3.tape, q3.output, q3.size, fun x hx ho => q3.block x hx ho⟩
                      have hform : ∃ g c, v' = .slice (some ⟨g, 0, none⟩) (j + 1) c := by
                        rcases q2.2 with ⟨_, h0⟩ | ⟨g, c, cur, he, _⟩
                        · omega
                        · exact ⟨g, c, he⟩
                      rw [HROW.out] at q2
                      refine Eq.mpr (if_pos rfl) ?_
                      refine operW_append (.tmp 96) (.tmp 111) 59 rfl lv (.slice (some ⟨sb2, 0, none⟩) 1 1) (by simp [Act.eval, upd, E]) (by simp [Act.eval, upd, E]) v' w' hr ?_
                      exact hK _ _ ⟨sb2, v', by simp [Act.put, upd, E, hj1n], fun h => by simp [upd, E] at h, fun _ h => by simp [upd, E] at h, fun _ => ⟨hform, q2, hdW⟩⟩
                    · rintro d a W hdi hdep hcl ⟨sb2, v2, rfl, hw⟩ K hK
                      have E := hcl.facts 17 hdi rfl hdep [0, 1, 2, 3, 4, 5, 6, 7, 8, 9, 10, 11, 12, 13, 14, 15, 16] [] (by kernel_rfl) (by kernel_rfl)
                      simp only [AllT, AllF] at E
                      clear hdi hdep hcl
                      go_simp
                      exact hK _ _ ⟨sb2, v2, by simp [upd, E, hj1n], by simpa [upd, E] using hw⟩
                  · rintro d a W hall ⟨sb2, v2, rfl, hw⟩
                    have E := AllT.all hall [0, 1, 2, 3, 4, 5, 6, 7, 8, 9, 10, 11, 12, 13, 14, 15, 16, 17] (by kernel_rfl)
                    simp only [AllT] at E
                    simp only [E, cond_true] at hw ⊢
                    clear E hall
                    obtain ⟨⟨lg, lc, rfl⟩, HL2, HD2⟩ := hw.2.2 trivial
                    clear hw
                    have hd : Diff (fun x => some x = lv.ownBlock) wr W := Diff.trans (HVr.out.mono (fun _ _ h => h.elim)) HD2.out
                    have hBX : X.heap.size ≤ W.heap.size := by have := HI.out.o2.df.size; have := HJJ.out.df.size; have := hd.size; omega
                    have hshW : W.ownsRow X.heap.size 2 1 (.slice (some ⟨gs, 0, none⟩) k cs) k (vals ((List.range k).map (hS u))) := own_keep HK2.out.sh hd (own_apart HK2.out.sh HJJ.out.ll (by decide))
                    obtain ⟨tv', w', hr, hJ2⟩ := HJJ.out.next HL2.out hd hBX (by have := ut.out; omega) hshW
                    rw [HXV.out, HAe.out] at hr
                    have HJ2 := Lib.hid hJ2
                    clear hJ2 hd hBX hshW HL2 HD2
                    go_wp2_with (at_builtin; refine Lib.wpList_append_run _ rfl _ _ _ _ rfl _ _ rfl rfl _ _ hr ?_)
                    exact ⟨⟨j + 1, _, _, by omega, by push_cast; rfl, rfl, rfl, HJ2.out⟩, by simp only [intOf]; omega⟩
            · obtain rfl : j = b.m m := by omega
              obtain ⟨sv', w', q', c', rfl, hr, hO, hgw, gd, dd, rfl⟩ := HI.out.next HJJ.out (by have := hv.n4; omega)
              have HOO := Lib.hid hO
              have o3 : wr.cell? ⟨g2, 3, none⟩ = some sv := by rw [cell_of_row wr _ _ _ _ _ HK2.out.ou]; rfl
              have o3' : w'.cell? ⟨g2, 3, none⟩ = some sv := by rw [cell_of_row w' _ _ _ _ _ hgw]; rfl
              have of' : ∀ o, w'.frozen? ⟨g2, o, none⟩ = false := fun o => frozen_of_row w' g2 o _ _ hgw
              clear hO hgw
              go_wp2_with (at_builtin; refine Lib.wpList_append_run _ rfl _ _ _ _ rfl _ _ rfl rfl _ _ hr ?_)
              exact ⟨⟨m + 1, _, _, by omega, by push_cast; rfl, rfl, HOO.out⟩, by simp only [intOf]; omega⟩
        · obtain rfl : m = b.n := by omega
          have HSI : Hid (SiAt b u X.heap.size b.n sv wr) := HI.out.o2.si
          obtain ⟨p', cap', rfl, -⟩ := HSI.out.book
          have hou := HI.out.o2.ou
          have o0 : wr.cell? ⟨g2, 0, none⟩ = some (.int .i64 b.lo) := by rw [cell_of_row wr _ _ _ _ _ hou]; rfl
          have o1 : wr.cell? ⟨g2, 1, none⟩ = some (.int .i64 b.hi) := by rw [cell_of_row wr _ _ _ _ _ hou]; rfl
          have o2 : wr.cell? ⟨g2, 2, none⟩ = some (.int .i64 b.lots) := by rw [cell_of_row wr _ _ _ _ _ hou]; rfl
          have o3 : wr.cell? ⟨g2, 3, none⟩ = some (.slice p' b.n cap') := by rw [cell_of_row wr _ _ _ _ _ hou]; rfl
          have hz : wr.heap[g1]? = _ := (HI.out.o2.df.block g1 (by have := HG.out; omega) (fun h => by have := HG.out; omega)).trans Z0.out
          have z0 : wr.cell? ⟨g1, 0, none⟩ = some (.int .i64 0) := by rw [cell_of_row wr _ _ _ _ _ hz]; rfl
          have z1 : wr.cell? ⟨g1, 1, none⟩ = some (.int .i64 0) := by rw [cell_of_row wr _ _ _ _ _ hz]; rfl
          have z2 : wr.cell? ⟨g1, 2, none⟩ = some (.int .i64 0) := by rw [cell_of_row wr _ _ _ _ _ hz]; rfl
          have z3 : wr.cell? ⟨g1, 3, none⟩ = some (.slice none 0 0) := by rw [cell_of_row wr _ _ _ _ _ hz]; rfl
          have zf : ∀ o, wr.frozen? ⟨g1, o, none⟩ = false := fun o => frozen_of_row wr g1 o _ _ hz
          obtain ⟨q2, d2, rfl, -⟩ := slice_of_own HI.out.ti
          clear hou hz
          go_wp2_with fail
          have hd : Diff (fun x => x = g1) wr ((((wr.setCell ⟨g1, 0, none⟩ (.int .i64 b.lo)).setCell ⟨g1, 1, none⟩ (.int .i64 b.hi)).setCell ⟨g1, 2, none⟩ (.int .i64 b.lots)).setCell ⟨g1, 3, none⟩ (.slice p' b.n cap')) := by
            exact ((((Diff.refl (O := fun x => x = g1) wr).setCell (p := ⟨g1, 0, none⟩) (fun _ => rfl) _).setCell (p := ⟨g1, 1, none⟩) (fun _ => rfl) _).setCell (p := ⟨g1, 2, none⟩) (fun _ => rfl) _).setCell (p := ⟨g1, 3, none⟩) (fun _ => rfl) _
          have hlow : ∀ x, x = g1 → x < X.heap.size := fun x hx => by have := HG.out; omega
          refine bodyPost_ret (v := .tuple #[bookV (heldB b u) p' cap', .slice (some ⟨gs, 0, none⟩) k cs, .slice q2 (b.upto b.n) d2]) (by simp [results, Tryd.results48, go_sem, z0, z1, z2, z3, heldB]) rfl ⟨?_, hPw.out.trans' hd (fun x hx hh => by have := HG.out; omega)⟩
          rw [HUe.out]
          have hsi := HSI.out.low hd hlow
          obtain ⟨p2, cap2, he, hbook⟩ := hsi.book
          cases he
          have hlen : (hXs b u).length = k := by rw [hXs_length]; have := HL.out; omega
          have hap := HI.out.ap
          refine ⟨_, _, gs, cs, .slice q2 (b.upto b.n) d2, by rw [hlen], hbook, ?_, ?_, ?_⟩
          · rw [hlen]
            refine own_mono (base := X.heap.size) ?_ (by have := HG.out; omega)
            have := own_low HI.out.o2.sh hd hlow
            unfold hXs
            rw [show b.lots.toNat = k by have := HL.out; omega]
            exact this
          · exact SlI.of_own2 (own_low HI.out.ti hd hlow) (by rw [hYs_length]; rfl)
          · intro x hx e
            exact hap gs rfl (by rw [hx, e])
end Go.Proofs.YtmedkmbfggphdaaDoor
