/- TasteNarrower: with a narrower Said, or a narrower Rate, or one more taste, no Span is wider. The walk of the law, for any book in memory, any numbers and any taste. -/
import Derived.Test.YtmedkmbfggphdaaDoorSo
import Derived.Test.YtmedkmbfggphdaaDoorT11a
import Derived.Test.YtmedkmbfggphdaaDoorU3
import Derived.Test.YtmedkmbfggphdaaDoorN6
set_option linter.unusedSimpArgs false
set_option linter.unusedVariables false
set_option linter.constructorNameAsVariable false
namespace Go.Proofs.YtmedkmbfggphdaaDoor
open Go.RowKit

def BlkAt (g : Nat) (O : Obj) (w : World) : Prop := w.heap[g]? = some O
theorem BlkAt.to {g : Nat} {O : Obj} {w w' : World} (h : BlkAt g O w) (hp : Pure w w') : BlkAt g O w' := (hp.block g (Array.getElem?_eq_some_iff.1 h).1 id).trans h
theorem BlkAt.lt {g : Nat} {O : Obj} {w : World} (h : BlkAt g O w) : g < w.heap.size := (Array.getElem?_eq_some_iff.1 h).1
/-- The ranges that spans returned, if there is a truth. -/
structure SpR (b : BK) (N : Nat) (q : Option Addr) (n : Nat) (w : World) : Prop where
  a : noneB b.es = false → n = N ∧ SpAt b N q w
theorem SpR.to {b : BK} {N n : Nat} {q : Option Addr} {w w' : World} (h : SpR b N q n w) (hp : Pure w w') : SpR b N q n w' := ⟨fun e => ⟨(h.a e).1, (h.a e).2.to hp⟩⟩
theorem spans_ok (w : World) (b : BK) (p : Option Addr) (cap N : Nat) (hs : b.Small) (hck : checkB b = 0) (hL : b.lots = N) (hb : BookAt w.heap.size w p b) (hg : Gl w) :
    Calls Tryd.prog 51 #[bookV b p cap] w fun e w' => (∃ q n c, e = .returned (.tuple #[.slice q n c, .bool (!noneB b.es), .bool true]) ∧ (noneB b.es = false → n = N ∧ SpAt b N q w')) ∧ Pure w w' := by
  refine (spans_any w b p cap hs hck hb hg).mono fun e w' ⟨h, hp⟩ => ⟨?_, hp⟩
  cases hn : noneB b.es with
  | true => exact ⟨none, 0, 0, h.one hn, fun h => Bool.noConfusion h⟩
  | false =>
    obtain ⟨q, c, he, hsp⟩ := h.two hn hL
    exact ⟨q, N, c, he, fun _ => ⟨rfl, hsp⟩⟩
/-- A book of which less can be has no wider Spans. -/
theorem less_ok (w : World) (b c : BK) (p : Option Addr) (cap N : Nat) (q : Option Addr) (n d : Nat) (was : Bool) (hw : (!noneB b.es) = was) (hv : b.Valid) (hvc : c.Valid) (hsc : c.Small) (hL : b.lots = N) (hLc : c.lots = N) (hsub : ∀ z, Can c N z → Can b N z)
    (hb : BookAt w.heap.size w p c) (hg : Gl w) (hr : SpR b N q n w) : Calls Tryd.prog 55 #[bookV c p cap, .slice q n d, .bool was] w fun e w' => e = .returned (.bool true) ∧ Pure w w' := by
  cases hn : noneB c.es with
  | true => exact less_none w c p cap _ was hsc (valid_check hvc) hb hg hn
  | false =>
    obtain ⟨h1, h2⟩ := can_sub hv hvc N hL hLc hsub hn
    obtain ⟨rfl, h3⟩ := hr.a h1
    rw [h1] at hw
    subst hw
    exact less_some w c p cap q n d _ _ hsc (valid_check hvc) hb hg hn hLc h3.rg h2

/-- What is known in a round that narrows one taste, by what is done. -/
structure MR2 (gj g : Nat) (lo hi : Int) (wz : World) (x : Bool) (W : World) : Prop where
  p : x = false → Pure wz W
  y : x = true → ∃ W0, Pure wz W0 ∧ W = (W0.setCell ⟨gj, g * 3 + 1, none⟩ (.int .i64 lo)).setCell ⟨gj, g * 3 + 2, none⟩ (.int .i64 hi)
theorem MR2.start (gj g : Nat) (lo hi : Int) (wz : World) : MR2 gj g lo hi wz false wz.drew := ⟨fun _ => (Diff.refl _).drew, fun h => Bool.noConfusion h⟩
theorem MR2.to {gj g : Nat} {lo hi : Int} {wz W W' : World} (h : MR2 gj g lo hi wz false W) (hp : Pure W W') : MR2 gj g lo hi wz false W' := ⟨fun _ => (h.p rfl).trans hp, fun h => Bool.noConfusion h⟩
theorem MR2.store {gj g : Nat} {lo hi : Int} {wz W : World} (h : MR2 gj g lo hi wz false W) : MR2 gj g lo hi wz true ((W.setCell ⟨gj, g * 3 + 1, none⟩ (.int .i64 lo)).setCell ⟨gj, g * 3 + 2, none⟩ (.int .i64 hi)) :=
  ⟨fun h => Bool.noConfusion h, fun _ => ⟨W, h.p rfl, rfl⟩⟩

set_option maxRecDepth 20000 in
set_option maxHeartbeats 16000000 in
theorem NarrowerLaw_any (w : World) (b : BK) (p : Option Addr) (cap : Nat) (x2 x3 : Int) (ts : TS) (hb : BookAt w.heap.size w p b) (hx2 : (Lit.int .u8 x2).wf = true) (hx3 : (Lit.int .u8 x3).wf = true) (hg : Gl w) :
    Calls Tryd.prog 13 #[bookV b p cap, .int .u8 x2, .int .u8 x3, .agg #[.int .i64 ts.lot, .int .i64 ts.lo, .int .i64 ts.hi]] w fun e w' => e = .returned (.bool true) ∧ Pure w w' := by
  have hmx : Tryd.prog.follows .mixedOrders = true := by kernel_rfl
  have hb2 := Go.bounds_u8 hx2
  have hb3 := Go.bounds_u8 hx3
  clear hx2 hx3
  have HB := Lib.hid hb
  have HG := Lib.hid hg
  clear hb hg
  go_enter Tryd.func13, Tryd.ntmps13
  go_wp2_with fail
  obtain ⟨X, hX⟩ : ∃ X, (w.alloc (.cells (bookC b p cap) 26)).alloc (.cells #[.int .i64 ts.lot, .int .i64 ts.lo, .int .i64 ts.hi] 70) = X := ⟨_, rfl⟩
  have hP : Hid (Pure w X) := by rw [← hX]; exact ((Diff.refl w).alloc _).alloc _
  have hX1 : BoxB w.heap.size b p cap X := by rw [← hX]; exact (BoxB.new w b p cap 26).pure ((Diff.refl _).alloc _)
  have hXm : BlkAt (w.heap.size + 1) (.cells #[.int .i64 ts.lot, .int .i64 ts.lo, .int .i64 ts.hi] 70 (0, 0)) X := by
    rw [← hX]
    have := World.alloc_heap_new (w.alloc (.cells (bookC b p cap) 26)) (.cells #[.int .i64 ts.lot, .int .i64 ts.lo, .int .i64 ts.hi] 70)
    rwa [World.size_alloc] at this
  obtain ⟨g0, hg0⟩ : ∃ g, w.heap.size = g := ⟨_, rfl⟩
  rw [hX]
  rw [hg0] at hX1 hXm ⊢
  obtain ⟨gm, hgm⟩ : ∃ g, g0 + 1 = g := ⟨_, rfl⟩
  rw [hgm] at hXm ⊢
  clear hX hg0 hgm
  have H0 := Lib.hid hX1
  have HM0 := Lib.hid hXm
  obtain ⟨c0, c1', c2', c3, cl⟩ := hX1
  refine (fine_any X b p cap (HB.out.to hP.out)).mono ?_
  rintro e w1 ⟨rfl, hp1⟩
  have hP1 : Hid (Pure w w1) := hP.out.trans hp1
  have HA1 := Lib.hid (H0.out.pure hp1)
  have HM1 := Lib.hid (HM0.out.to hp1)
  clear c0 c1' c2' c3 cl hp1 hP H0 HM0 hXm
  obtain ⟨za0, za1, za2, za3, zal⟩ := HA1.out
  cases hfine : fineB b with
  | false =>
    go_wp2_with fail
    refine (Works_any w1 (HG.out.to hP1.out)).mono ?_
    rintro e w2 ⟨rfl, hp2⟩
    have hP2 : Hid (Pure w w2) := hP1.out.trans hp2
    clear hp2
    go_wp2_with fail
    exact bodyPost_ret (v := .bool true) (by simp [results, Tryd.results13, go_sem]) rfl ⟨rfl, hP2.out⟩
  | true =>
    obtain ⟨hs, hck⟩ := fineB_iff.1 hfine
    have hv := checkB_valid hck
    have HCK := Lib.hid hck
    clear hck hfine
    have HB1 := Lib.hid (HB.out.to hP1.out)
    have HG1 := Lib.hid (HG.out.to hP1.out)
    clear HB HG
    have hl1 := hv.lots1
    have hl6 := hv.lots6
    have hn4 := hv.n4
    have hlo0 := hv.lo0
    have hlohi := hv.lohi
    have hhi50 := hv.hi50
    obtain ⟨N, hN⟩ := Int.eq_ofNat_of_zero_le (show 0 ≤ b.lots by omega)
    have hN6 : N ≤ 6 := by omega
    have HLN := Lib.hid hN
    have HS := Lib.hid hs
    clear hN hs
    by_cases hn0 : b.n = 0
    · have hn0i : ((b.n : Int) == 0) = true := by simp [hn0]
      clear hn0
      go_wp2_with fail
      refine (Works_any w1 HG1.out).mono ?_
      rintro e w99 ⟨rfl, hp99⟩
      go_wp2_with fail
      exact bodyPost_ret (v := .bool true) (by simp [results, Tryd.results13, go_sem]) rfl ⟨rfl, hP1.out.trans hp99⟩
    · have hn0i : ((b.n : Int) == 0) = false := by simpa using hn0
      have hnz : ¬ (b.n : Int) = 0 := by omega
      have hnz2 : ¬ b.n = 0 := hn0
      clear hn0
      go_wp2_with fail
      refine (spans_ok w1 b p cap N HS.out HCK.out HLN.out HB1.out HG1.out).mono ?_
      rintro e w2 ⟨hq, hp⟩
      obtain ⟨sq, sn, sc, rfl, hsp0⟩ := hq
      have hsp : SpR b N sq sn w2 := ⟨hsp0⟩
      obtain ⟨wsb, hws⟩ : ∃ x, (!noneB b.es) = x := ⟨_, rfl⟩
      have HWS := Lib.hid hws
      rw [hws]
      clear hws hsp0
      have hP2 : Hid (Pure w w2) := hP1.out.trans hp
      have HA2 := Lib.hid (HA1.out.pure hp)
      have HB2 := Lib.hid (HB1.out.to hp)
      have HG2 := Lib.hid (HG1.out.to hp)
      have HM2 := Lib.hid (HM1.out.to hp)
      have HSP2 := Lib.hid (hsp)
      clear hp hP1 HA1 za0 za1 za2 za3 zal HB1 HG1 HM1
      obtain ⟨za0, za1, za2, za3, zal⟩ := HA2.out
      clear hsp
      obtain ⟨A, hA⟩ := Int.eq_ofNat_of_zero_le (show 0 ≤ x2 % (b.n : Int) from Int.emod_nonneg _ (by omega))
      have hAN : A < b.n := by have := Int.emod_lt_of_pos x2 (show (0 : Int) < b.n by omega); omega
      have hmA := hv.pos A hAN
      have hm16 := HS.out.2 A hAN
      obtain ⟨kt, hK⟩ := Int.eq_ofNat_of_zero_le (show 0 ≤ x2 / 4 % (b.m A : Int) from Int.emod_nonneg _ (by omega))
      have hKm : kt < b.m A := by have := Int.emod_lt_of_pos (x2 / 4) (show (0 : Int) < b.m A by omega); omega
      have hmz : ¬ (b.m A : Int) = 0 := by omega
      have hmz2 : ¬ b.m A = 0 := by omega
      obtain ⟨tb, to', tq, tc, hq0, htb, hc, -⟩ := HB2.out A hAN
      subst hq0
      have hAi : (A : Int) < b.n := by omega
      have hA0 : (0 : Int) ≤ A := by omega
      go_wp2_with fail
      rw [hA, hK]
      have HAE := Lib.hid hA
      have HKE := Lib.hid hK
      clear hA hK hnz hmz hn0i
      clear za0 za1 za2 za3 zal
      clear hc
      refine reg_invW (fun d a W => ∃ (r1 : Option Addr) (e1 : Nat) (r2 : Option Addr) (e2 : Nat) (r3 : Option Addr) (e3 B2 B3 gx gy gz : Nat), a = { tmps := #[bookV b (some { block := tb, off := to' }) cap, Value.int IntKind.u8 x2, Value.int IntKind.u8 x3, Value.agg #[Value.int IntKind.i64 ts.lot, Value.int IntKind.i64 ts.lo, Value.int IntKind.i64 ts.hi], Value.pointer (some { block := g0, off := 0 }), undef, undef, Value.pointer (some { block := gm, off := 0 }), Value.bool false, Value.slice sq sn sc, Value.bool wsb, Value.bool true, Value.int IntKind.i64 (A : Int), Value.int IntKind.i64 (kt : Int), (bif d 6 then Value.pointer (some { block := gx, off := 0 }) else undef), (bif d 7 then Value.pointer (some { block := gy, off := 0 }) else undef), (bif d 8 then Value.pointer (some { block := gz, off := 0 }) else undef), undef, undef, Value.agg #[Value.int IntKind.i64 b.lo, Value.int IntKind.i64 b.hi, Value.int IntKind.i64 b.lots, Value.slice (some { block := tb, off := to' }) b.n cap], Value.bool true, Value.bool false, Value.bool false, Value.pointer (some { block := g0, off := 3 }), Value.slice (some { block := tb, off := to' }) b.n cap, Value.int IntKind.i64 (b.n : Int), Value.bool false, Value.bool false, undef, Value.tuple #[Value.slice sq sn sc, Value.bool wsb, Value.bool true], Value.agg #[Value.int IntKind.i64 b.lo, Value.int IntKind.i64 b.hi, Value.int IntKind.i64 b.lots, Value.slice (some { block := tb, off := to' }) b.n cap], Value.tuple #[Value.slice sq sn sc, Value.bool wsb, Value.bool true], Value.slice sq sn sc, Value.bool wsb, Value.bool true, Value.bool true, Value.bool false, Value.int IntKind.u8 x2, Value.int IntKind.i64 x2, Value.pointer (some { block := g0, off := 3 }), Value.slice (some { block := tb, off := to' }) b.n cap, Value.int IntKind.i64 (b.n : Int), Value.int IntKind.i64 (A : Int), Value.int IntKind.u8 x2, Value.int IntKind.i64 x2, Value.int IntKind.i64 (x2 / 4), Value.pointer (some { block := g0, off := 3 }), Value.slice (some { block := tb, off := to' }) b.n cap, Value.int IntKind.i64 (A : Int), Value.pointer (some { block := tb, off := to' + A }), Value.slice tq (b.m A) tc, Value.int IntKind.i64 ↑(b.m A), Value.int IntKind.i64 (kt : Int), (bif d 0 then Value.agg #[Value.int IntKind.i64 b.lo, Value.int IntKind.i64 b.hi, Value.int IntKind.i64 b.lots, Value.slice (some { block := tb, off := to' }) b.n cap] else undef), (bif d 1 then Value.agg #[Value.int IntKind.i64 b.lo, Value.int IntKind.i64 b.hi, Value.int IntKind.i64 b.lots, Value.slice r1 b.n e1] else undef), (bif d 2 then Value.agg #[Value.int IntKind.i64 b.lo, Value.int IntKind.i64 b.hi, Value.int IntKind.i64 b.lots, Value.slice (some { block := tb, off := to' }) b.n cap] else undef), (bif d 3 then Value.agg #[Value.int IntKind.i64 b.lo, Value.int IntKind.i64 b.hi, Value.int IntKind.i64 b.lots, Value.slice r2 b.n e2] else undef), (bif d 4 then Value.agg #[Value.int IntKind.i64 b.lo, Value.int IntKind.i64 b.hi, Value.int IntKind.i64 b.lots, Value.slice (some { block := tb, off := to' }) b.n cap] else undef), (bif d 5 then Value.agg #[Value.int IntKind.i64 b.lo, Value.int IntKind.i64 b.hi, Value.int IntKind.i64 b.lots, Value.slice r3 b.n e3] else undef), undef, undef, undef, undef, undef, undef, undef, undef, undef, undef, undef, undef, undef, undef, undef, undef, undef, undef, undef, undef, undef, undef, undef, undef, undef, undef, undef, undef, undef, undef, undef, undef, undef, undef, undef, undef, undef, undef, undef, undef, undef, undef, undef, undef, undef, undef, undef, undef, undef, undef, undef, undef, undef, undef, undef, undef, undef, undef, undef, undef, undef, undef, undef, undef, undef, undef, undef, undef, undef, undef, undef, undef, undef, undef, undef, undef, undef, undef, undef, undef, undef, undef, undef, undef, undef, undef, undef, undef, undef, undef, undef, undef, undef, undef, undef, undef, undef, undef, undef, undef, undef, undef], defers := [] } ∧ Hid (N8 b w2 r1 e1 r2 e2 r3 e3 B2 B3 gx gy gz (d 1) (d 3) (d 5) (d 6) (d 7) (d 8) (d 9) (d 10) (d 11) W)) hmx (by kernel_rfl) ?_ ?_ ?_
      · exact ⟨none, 0, none, 0, none, 0, 0, 0, 0, 0, 0, rfl, N8.start _ _ _ _ _ _ _ _ _ _ _ _ _⟩
      · refine ⟨?_, ?_, ?_, ?_, ?_, ?_, ?_, ?_, ?_, ?_, ?_, ?_, trivial⟩
        · rintro d a W hdi hdep hcl ⟨r1, e1, r2, e2, r3, e3, B2, B3, gx, gy, gz, rfl, hw⟩ K hK
          have E := hcl.facts 0 hdi rfl hdep [] [1, 3, 5, 9, 10, 11] (by kernel_rfl) (by kernel_rfl)
          simp only [AllT, AllF] at E
          clear hdi hdep hcl
          obtain ⟨zb0, zb1, zb2, zb3, zbl⟩ := HA2.out.pure hw.out.p
          go_simp
          refine hK _ _ ⟨r1, e1, r2, e2, r3, e3, B2, B3, gx, gy, gz, by simp [upd, E], ?_⟩
          first | exact hw | simpa [upd, E] using hw
        · rintro d a W hdi hdep hcl ⟨r1, e1, r2, e2, r3, e3, B2, B3, gx, gy, gz, rfl, hw⟩ K hK
          have E := hcl.facts 1 hdi rfl hdep [0] [3, 5, 9, 10, 11] (by kernel_rfl) (by kernel_rfl)
          simp only [AllT, AllF] at E
          clear hdi hdep hcl
          have h := hw.out
          rw [show d 1 = false by simp [E], show d 3 = false by simp [E], show d 5 = false by simp [E], show d 9 = false by simp [E], show d 10 = false by simp [E], show d 11 = false by simp [E]] at h
          go_simp
          refine (same_any W b (some ⟨tb, to', none⟩) cap HS.out hv (HB2.out.to h.p)).mono ?_
          rintro e w99 ⟨v0, rfl, hs', hp6⟩
          obtain ⟨vq, vc, rfl⟩ := hs'.form
          exact hK _ _ ⟨vq, vc, r2, e2, r3, e3, B2, B3, gx, gy, gz, by simp [upd, E], by rw [show upd d 1 1 = true by simp [upd, E], show upd d 1 3 = false by simp [upd, E], show upd d 1 5 = false by simp [upd, E], show upd d 1 6 = d 6 from rfl, show upd d 1 7 = d 7 from rfl, show upd d 1 8 = d 8 from rfl, show upd d 1 9 = false by simp [upd, E], show upd d 1 10 = false by simp [upd, E], show upd d 1 11 = false by simp [upd, E]]; exact h.same1 hp6 hs'⟩
        · rintro d a W hdi hdep hcl ⟨r1, e1, r2, e2, r3, e3, B2, B3, gx, gy, gz, rfl, hw⟩ K hK
          have E := hcl.facts 2 hdi rfl hdep [] [3, 5, 9, 10, 11] (by kernel_rfl) (by kernel_rfl)
          simp only [AllT, AllF] at E
          clear hdi hdep hcl
          obtain ⟨zb0, zb1, zb2, zb3, zbl⟩ := HA2.out.pure hw.out.p
          go_simp
          refine hK _ _ ⟨r1, e1, r2, e2, r3, e3, B2, B3, gx, gy, gz, by simp [upd, E], ?_⟩
          first | exact hw | simpa [upd, E] using hw
        · rintro d a W hdi hdep hcl ⟨r1, e1, r2, e2, r3, e3, B2, B3, gx, gy, gz, rfl, hw⟩ K hK
          have E := hcl.facts 3 hdi rfl hdep [0, 1, 2] [5, 9, 10, 11] (by kernel_rfl) (by kernel_rfl)
          simp only [AllT, AllF] at E
          clear hdi hdep hcl
          have h := hw.out
          rw [show d 1 = true by simp [E], show d 3 = false by simp [E], show d 5 = false by simp [E], show d 9 = false by simp [E], show d 10 = false by simp [E], show d 11 = false by simp [E]] at h
          go_simp
          refine (same_any W b (some ⟨tb, to', none⟩) cap HS.out hv (HB2.out.to h.p)).mono ?_
          rintro e w99 ⟨v0, rfl, hs', hp6⟩
          obtain ⟨vq, vc, rfl⟩ := hs'.form
          exact hK _ _ ⟨r1, e1, vq, vc, r3, e3, W.heap.size, B3, gx, gy, gz, by simp [upd, E], by rw [show upd d 3 1 = true by simp [upd, E], show upd d 3 3 = true by simp [upd, E], show upd d 3 5 = false by simp [upd, E], show upd d 3 6 = d 6 from rfl, show upd d 3 7 = d 7 from rfl, show upd d 3 8 = d 8 from rfl, show upd d 3 9 = false by simp [upd, E], show upd d 3 10 = false by simp [upd, E], show upd d 3 11 = false by simp [upd, E]]; exact h.same2 hp6 hs'⟩
        · rintro d a W hdi hdep hcl ⟨r1, e1, r2, e2, r3, e3, B2, B3, gx, gy, gz, rfl, hw⟩ K hK
          have E := hcl.facts 4 hdi rfl hdep [] [5, 9, 10, 11] (by kernel_rfl) (by kernel_rfl)
          simp only [AllT, AllF] at E
          clear hdi hdep hcl
          obtain ⟨zb0, zb1, zb2, zb3, zbl⟩ := HA2.out.pure hw.out.p
          go_simp
          refine hK _ _ ⟨r1, e1, r2, e2, r3, e3, B2, B3, gx, gy, gz, by simp [upd, E], ?_⟩
          first | exact hw | simpa [upd, E] using hw
        · rintro d a W hdi hdep hcl ⟨r1, e1, r2, e2, r3, e3, B2, B3, gx, gy, gz, rfl, hw⟩ K hK
          have E := hcl.facts 5 hdi rfl hdep [0, 1, 2, 3, 4] [9, 10, 11] (by kernel_rfl) (by kernel_rfl)
          simp only [AllT, AllF] at E
          clear hdi hdep hcl
          have h := hw.out
          rw [show d 1 = true by simp [E], show d 3 = true by simp [E], show d 5 = false by simp [E], show d 9 = false by simp [E], show d 10 = false by simp [E], show d 11 = false by simp [E]] at h
          go_simp
          refine (same_any W b (some ⟨tb, to', none⟩) cap HS.out hv (HB2.out.to h.p)).mono ?_
          rintro e w99 ⟨v0, rfl, hs', hp6⟩
          obtain ⟨vq, vc, rfl⟩ := hs'.form
          exact hK _ _ ⟨r1, e1, r2, e2, vq, vc, B2, W.heap.size, gx, gy, gz, by simp [upd, E], by rw [show upd d 5 1 = true by simp [upd, E], show upd d 5 3 = true by simp [upd, E], show upd d 5 5 = true by simp [upd, E], show upd d 5 6 = d 6 from rfl, show upd d 5 7 = d 7 from rfl, show upd d 5 8 = d 8 from rfl, show upd d 5 9 = false by simp [upd, E], show upd d 5 10 = false by simp [upd, E], show upd d 5 11 = false by simp [upd, E]]; exact h.same3 hp6 hs'⟩
        · rintro d a W hdi hdep hcl ⟨r1, e1, r2, e2, r3, e3, B2, B3, gx, gy, gz, rfl, hw⟩ K hK
          have E := hcl.facts 6 hdi rfl hdep [] [9, 10, 11] (by kernel_rfl) (by kernel_rfl)
          simp only [AllT, AllF] at E
          clear hdi hdep hcl
          have h := hw.out
          rw [show d 6 = false by simp [E], show d 9 = false by simp [E], show d 10 = false by simp [E], show d 11 = false by simp [E]] at h
          go_simp
          exact hK _ _ ⟨r1, e1, r2, e2, r3, e3, B2, B3, W.heap.size, gy, gz, by simp [upd, E], by rw [show upd d 6 1 = d 1 from rfl, show upd d 6 3 = d 3 from rfl, show upd d 6 5 = d 5 from rfl, show upd d 6 6 = true by simp [upd, E], show upd d 6 7 = d 7 from rfl, show upd d 6 8 = d 8 from rfl, show upd d 6 9 = false by simp [upd, E], show upd d 6 10 = false by simp [upd, E], show upd d 6 11 = false by simp [upd, E]]; exact h.alloc1⟩
        · rintro d a W hdi hdep hcl ⟨r1, e1, r2, e2, r3, e3, B2, B3, gx, gy, gz, rfl, hw⟩ K hK
          have E := hcl.facts 7 hdi rfl hdep [] [9, 10, 11] (by kernel_rfl) (by kernel_rfl)
          simp only [AllT, AllF] at E
          clear hdi hdep hcl
          have h := hw.out
          rw [show d 7 = false by simp [E], show d 9 = false by simp [E], show d 10 = false by simp [E], show d 11 = false by simp [E]] at h
          go_simp
          exact hK _ _ ⟨r1, e1, r2, e2, r3, e3, B2, B3, gx, W.heap.size, gz, by simp [upd, E], by rw [show upd d 7 1 = d 1 from rfl, show upd d 7 3 = d 3 from rfl, show upd d 7 5 = d 5 from rfl, show upd d 7 6 = d 6 from rfl, show upd d 7 7 = true by simp [upd, E], show upd d 7 8 = d 8 from rfl, show upd d 7 9 = false by simp [upd, E], show upd d 7 10 = false by simp [upd, E], show upd d 7 11 = false by simp [upd, E]]; exact h.alloc2⟩
        · rintro d a W hdi hdep hcl ⟨r1, e1, r2, e2, r3, e3, B2, B3, gx, gy, gz, rfl, hw⟩ K hK
          have E := hcl.facts 8 hdi rfl hdep [] [9, 10, 11] (by kernel_rfl) (by kernel_rfl)
          simp only [AllT, AllF] at E
          clear hdi hdep hcl
          have h := hw.out
          rw [show d 8 = false by simp [E], show d 9 = false by simp [E], show d 10 = false by simp [E], show d 11 = false by simp [E]] at h
          go_simp
          exact hK _ _ ⟨r1, e1, r2, e2, r3, e3, B2, B3, gx, gy, W.heap.size, by simp [upd, E], by rw [show upd d 8 1 = d 1 from rfl, show upd d 8 3 = d 3 from rfl, show upd d 8 5 = d 5 from rfl, show upd d 8 6 = d 6 from rfl, show upd d 8 7 = d 7 from rfl, show upd d 8 8 = true by simp [upd, E], show upd d 8 9 = false by simp [upd, E], show upd d 8 10 = false by simp [upd, E], show upd d 8 11 = false by simp [upd, E]]; exact h.alloc3⟩
        · rintro d a W hdi hdep hcl ⟨r1, e1, r2, e2, r3, e3, B2, B3, gx, gy, gz, rfl, hw⟩ K hK
          have E := hcl.facts 9 hdi rfl hdep [0, 1, 2, 3, 4, 5, 6, 7, 8] [10, 11] (by kernel_rfl) (by kernel_rfl)
          simp only [AllT, AllF] at E
          clear hdi hdep hcl
          have h := hw.out
          rw [show d 1 = true by simp [E], show d 3 = true by simp [E], show d 5 = true by simp [E], show d 6 = true by simp [E], show d 7 = true by simp [E], show d 8 = true by simp [E], show d 9 = false by simp [E], show d 10 = false by simp [E], show d 11 = false by simp [E]] at h
          have hblk := (h.bx rfl).2
          simp only [cond_false, cond_true, box0] at hblk
          have o0 : W.cell? ⟨gx, 0, none⟩ = some (.int .i64 0) := by rw [cell_of_row W _ _ _ _ _ hblk]; rfl
          have o1 : W.cell? ⟨gx, 1, none⟩ = some (.int .i64 0) := by rw [cell_of_row W _ _ _ _ _ hblk]; rfl
          have o2 : W.cell? ⟨gx, 2, none⟩ = some (.int .i64 0) := by rw [cell_of_row W _ _ _ _ _ hblk]; rfl
          have o3 : W.cell? ⟨gx, 3, none⟩ = some (.slice none 0 0) := by rw [cell_of_row W _ _ _ _ _ hblk]; rfl
          have fo : ∀ o, W.frozen? ⟨gx, o, none⟩ = false := fun o => frozen_of_row W _ o _ _ hblk
          have HH := Lib.hid h.store1
          clear h hblk
          go_simp
          refine hK _ _ ⟨r1, e1, r2, e2, r3, e3, B2, B3, gx, gy, gz, by simp [upd, E], ?_⟩
          rw [show upd d 9 1 = true by simp [upd, E], show upd d 9 3 = true by simp [upd, E], show upd d 9 5 = true by simp [upd, E], show upd d 9 6 = true by simp [upd, E], show upd d 9 7 = true by simp [upd, E], show upd d 9 8 = true by simp [upd, E], show upd d 9 9 = true by simp [upd, E], show upd d 9 10 = false by simp [upd, E], show upd d 9 11 = false by simp [upd, E]]
          exact HH.out
        · rintro d a W hdi hdep hcl ⟨r1, e1, r2, e2, r3, e3, B2, B3, gx, gy, gz, rfl, hw⟩ K hK
          have E := hcl.facts 10 hdi rfl hdep [0, 1, 2, 3, 4, 5, 6, 7, 8, 9] [11] (by kernel_rfl) (by kernel_rfl)
          simp only [AllT, AllF] at E
          clear hdi hdep hcl
          have h := hw.out
          rw [show d 1 = true by simp [E], show d 3 = true by simp [E], show d 5 = true by simp [E], show d 6 = true by simp [E], show d 7 = true by simp [E], show d 8 = true by simp [E], show d 9 = true by simp [E], show d 10 = false by simp [E], show d 11 = false by simp [E]] at h
          have hblk := (h.by' rfl).2
          simp only [cond_false, cond_true, box0] at hblk
          have o0 : W.cell? ⟨gy, 0, none⟩ = some (.int .i64 0) := by rw [cell_of_row W _ _ _ _ _ hblk]; rfl
          have o1 : W.cell? ⟨gy, 1, none⟩ = some (.int .i64 0) := by rw [cell_of_row W _ _ _ _ _ hblk]; rfl
          have o2 : W.cell? ⟨gy, 2, none⟩ = some (.int .i64 0) := by rw [cell_of_row W _ _ _ _ _ hblk]; rfl
          have o3 : W.cell? ⟨gy, 3, none⟩ = some (.slice none 0 0) := by rw [cell_of_row W _ _ _ _ _ hblk]; rfl
          have fo : ∀ o, W.frozen? ⟨gy, o, none⟩ = false := fun o => frozen_of_row W _ o _ _ hblk
          have HH := Lib.hid h.store2
          clear h hblk
          go_simp
          refine hK _ _ ⟨r1, e1, r2, e2, r3, e3, B2, B3, gx, gy, gz, by simp [upd, E], ?_⟩
          rw [show upd d 10 1 = true by simp [upd, E], show upd d 10 3 = true by simp [upd, E], show upd d 10 5 = true by simp [upd, E], show upd d 10 6 = true by simp [upd, E], show upd d 10 7 = true by simp [upd, E], show upd d 10 8 = true by simp [upd, E], show upd d 10 9 = true by simp [upd, E], show upd d 10 10 = true by simp [upd, E], show upd d 10 11 = false by simp [upd, E]]
          exact HH.out
        · rintro d a W hdi hdep hcl ⟨r1, e1, r2, e2, r3, e3, B2, B3, gx, gy, gz, rfl, hw⟩ K hK
          have E := hcl.facts 11 hdi rfl hdep [0, 1, 2, 3, 4, 5, 6, 7, 8, 9, 10] [] (by kernel_rfl) (by kernel_rfl)
          simp only [AllT, AllF] at E
          clear hdi hdep hcl
          have h := hw.out
          rw [show d 1 = true by simp [E], show d 3 = true by simp [E], show d 5 = true by simp [E], show d 6 = true by simp [E], show d 7 = true by simp [E], show d 8 = true by simp [E], show d 9 = true by simp [E], show d 10 = true by simp [E], show d 11 = false by simp [E]] at h
          have hblk := (h.bz rfl).2
          simp only [cond_false, cond_true, box0] at hblk
          have o0 : W.cell? ⟨gz, 0, none⟩ = some (.int .i64 0) := by rw [cell_of_row W _ _ _ _ _ hblk]; rfl
          have o1 : W.cell? ⟨gz, 1, none⟩ = some (.int .i64 0) := by rw [cell_of_row W _ _ _ _ _ hblk]; rfl
          have o2 : W.cell? ⟨gz, 2, none⟩ = some (.int .i64 0) := by rw [cell_of_row W _ _ _ _ _ hblk]; rfl
          have o3 : W.cell? ⟨gz, 3, none⟩ = some (.slice none 0 0) := by rw [cell_of_row W _ _ _ _ _ hblk]; rfl
          have fo : ∀ o, W.frozen? ⟨gz, o, none⟩ = false := fun o => frozen_of_row W _ o _ _ hblk
          have HH := Lib.hid h.store3
          clear h hblk
          go_simp
          refine hK _ _ ⟨r1, e1, r2, e2, r3, e3, B2, B3, gx, gy, gz, by simp [upd, E], ?_⟩
          rw [show upd d 11 1 = true by simp [upd, E], show upd d 11 3 = true by simp [upd, E], show upd d 11 5 = true by simp [upd, E], show upd d 11 6 = true by simp [upd, E], show upd d 11 7 = true by simp [upd, E], show upd d 11 8 = true by simp [upd, E], show upd d 11 9 = true by simp [upd, E], show upd d 11 10 = true by simp [upd, E], show upd d 11 11 = true by simp [upd, E]]
          exact HH.out
      · rintro d a W hall ⟨r1, e1, r2, e2, r3, e3, B2, B3, gx, gy, gz, rfl, hw⟩
        have E := AllT.all hall [0, 1, 2, 3, 4, 5, 6, 7, 8, 9, 10, 11] (by kernel_rfl)
        simp only [AllT] at E
        simp only [E, cond_true] at hw ⊢
        clear E hall
        have h := hw.out
        have hbx := (h.bx rfl).2
        have hby := (h.by' rfl).2
        have hbz := (h.bz rfl).2
        have hn1 := h.n1 rfl rfl
        have hn2 := h.n2 rfl rfl
        have hn3 := h.n3 rfl rfl
        have a2 := h.a2 rfl
        have a3 := h.a3 rfl
        have hgx := (h.bx rfl).1
        have hgy := (h.by' rfl).1
        have hgz := (h.bz rfl).1
        simp only [cond_true] at hbx hby hbz
        have hp := h.p
        obtain ⟨w3, hw3⟩ : ∃ V, W = V := ⟨_, rfl⟩
        rw [hw3] at hbx hby hbz a2 a3 hp ⊢
        clear hw h hw3 W d
        have HBX := Lib.hid hbx
        have HBY := Lib.hid hby
        have HBZ := Lib.hid hbz
        have HC1 := Lib.hid a2.1
        have HC2 := Lib.hid a3.1
        have HC3 := Lib.hid a3.2.1
        have hB2 := a2.2.2.1
        have hB3 := a3.2.2
        have hB3w : B3 ≤ w3.heap.size := by obtain ⟨go, gk, ck, F, e1', h1, h2, _⟩ := a3.2.1.sit hAN; omega
        clear hbx hby hbz a2 a3
        have HBQ := HB2
        have HGQ := HG2
        have HMQ := HM2
        have HSPQ := HSP2
        have HAQ := HA2
        have HPQ := hP2
        have hp3q : Pure w2 w3 := hp
        have hP3 : Hid (Pure w w3) := hP2.out.trans hp
        have HA3 := Lib.hid (HA2.out.pure hp)
        have HB3 := Lib.hid (HB2.out.to hp)
        have HG3 := Lib.hid (HG2.out.to hp)
        have HM3 := Lib.hid (HM2.out.to hp)
        have HSP3 := Lib.hid (HSP2.out.to hp)
        clear hp hP2 HA2 HB2 HG2 HM2 HSP2
        obtain ⟨go1, gk1, ck1, F1, hr1, hB1, hgo1, hgoc1, hsit1, hsay1⟩ := HC1.out.s.sit hAN
        subst hr1
        obtain ⟨s1, s2, s3⟩ := hsit1.cells hKm
        have x3c : w3.cell? ⟨gx, 3, none⟩ = some (.slice (some ⟨go1, 0, none⟩) b.n e1) := by rw [cell_of_row w3 _ _ _ _ _ HBX.out]; rfl
        have q1 := hv.said0 A kt hAN hKm
        have q2 := hv.said1 A kt hAN hKm
        have q3 := hv.said2 A kt hAN hKm
        obtain ⟨lo, hlo⟩ : ∃ x, (b.t A kt).lo = x := ⟨_, rfl⟩
        obtain ⟨hi, hhi⟩ : ∃ x, (b.t A kt).hi = x := ⟨_, rfl⟩
        have HLO := Lib.hid hlo
        have HHI := Lib.hid hhi
        rw [hlo] at s2 q1 q2
        rw [hhi] at s3 q2 q3
        have hck1 : b.m A ≤ ck1 := hsit1.mc
        have hgk1 := hsit1.row.lt
        have hgkB := hsit1.low
        have HFZ : Hid (∀ o, w3.frozen? ⟨gk1, o, none⟩ = false) := fun o => hsit1.row.frozen o
        have hgkH : gk1 < B2 := (HC1.out.u go1 rfl).2 A hAN gk1 _ _ hgoc1
        have hgkx : gx ≠ gk1 := fun e => by obtain ⟨cs', h4, -⟩ := hsit1.row; have h5 := HBX.out; rw [e, h4] at h5; simp at h5
        have hgky : gy ≠ gk1 := fun e => by obtain ⟨cs', h4, -⟩ := hsit1.row; have h5 := HBY.out; rw [e, h4] at h5; simp at h5
        have hgkz : gz ≠ gk1 := fun e => by obtain ⟨cs', h4, -⟩ := hsit1.row; have h5 := HBZ.out; rw [e, h4] at h5; simp at h5
        have hK0 : (0 : Int) ≤ kt := by omega
        have hKi : (kt : Int) < b.m A := by omega
        have hd0 : 0 ≤ x3 % (hi - lo + 1) := Int.emod_nonneg _ (by omega)
        have hd1 : x3 % (hi - lo + 1) < hi - lo + 1 := Int.emod_lt_of_pos _ (by omega)
        have hdz : ¬ hi - lo + 1 = 0 := by omega
        have hdt : x3.tmod (hi - lo + 1) = x3 % (hi - lo + 1) := Int.tmod_eq_emod_of_nonneg (by omega)
        obtain ⟨d0, hd⟩ : ∃ x, x3 % (hi - lo + 1) = x := ⟨_, rfl⟩
        rw [hd] at hd0 hd1 hdt
        have HD0 := Lib.hid hd
        clear hd hlo hhi
        have HS1 := Lib.hid s1
        have HS2 := Lib.hid s2
        have HS3 := Lib.hid s3
        have HGC1 := Lib.hid hgoc1
        have HSAY := Lib.hid hsay1
        clear s1 hsit1 hsay1
        go_wp2_with fail
        obtain ⟨w4, hw4⟩ : ∃ V, w3.alloc (.cells #[.int .i64 lo, .int .i64 hi] 23) = V := ⟨_, rfl⟩
        have hp34 : Pure w3 w4 := by rw [← hw4]; exact (Diff.refl _).alloc _
        have hbr : w4.heap[w3.heap.size]? = some (.cells #[.int .i64 lo, .int .i64 hi] 23 (0, 0)) := by rw [← hw4]; exact World.alloc_heap_new _ _
        obtain ⟨gr, hgr⟩ : ∃ g, w3.heap.size = g := ⟨_, rfl⟩
        rw [hw4]
        rw [hgr] at hbr ⊢
        have hrl : gr < w4.heap.size := (Array.getElem?_eq_some_iff.1 hbr).1
        have HBR := Lib.hid hbr
        have HP34 := Lib.hid hp34
        obtain ⟨l1, hl1'⟩ : ∃ x, lo + d0 / 2 = x := ⟨_, rfl⟩
        obtain ⟨h1, hh1⟩ : ∃ x, hi - (d0 - d0 / 2) = x := ⟨_, rfl⟩
        have m1 : lo ≤ l1 := by omega
        have m2 : l1 ≤ h1 := by omega
        have m3 : h1 ≤ hi := by omega
        have HL1 := Lib.hid hl1'
        have HH1 := Lib.hid hh1
        clear hw4 hp34 hbr hgr hl1' hh1 x3c s2 s3 hdt
        refine reg_invW (fun d a W => a = { tmps := #[bookV b (some { block := tb, off := to' }) cap, Value.int IntKind.u8 x2, Value.int IntKind.u8 x3, Value.agg #[Value.int IntKind.i64 ts.lot, Value.int IntKind.i64 ts.lo, Value.int IntKind.i64 ts.hi], Value.pointer (some { block := g0, off := 0 }), undef, undef, Value.pointer (some { block := gm, off := 0 }), Value.bool false, Value.slice sq sn sc, Value.bool wsb, Value.bool true, Value.int IntKind.i64 (A : Int), Value.int IntKind.i64 (kt : Int), Value.pointer (some { block := gx, off := 0 }), Value.pointer (some { block := gy, off := 0 }), Value.pointer (some { block := gz, off := 0 }), Value.pointer (some { block := gr, off := 0 }), Value.int IntKind.i64 d0, Value.agg #[Value.int IntKind.i64 b.lo, Value.int IntKind.i64 b.hi, Value.int IntKind.i64 b.lots, Value.slice (some { block := tb, off := to' }) b.n cap], Value.bool true, Value.bool false, Value.bool false, Value.pointer (some { block := g0, off := 3 }), Value.slice (some { block := tb, off := to' }) b.n cap, Value.int IntKind.i64 (b.n : Int), Value.bool false, Value.bool false, undef, Value.tuple #[Value.slice sq sn sc, Value.bool wsb, Value.bool true], Value.agg #[Value.int IntKind.i64 b.lo, Value.int IntKind.i64 b.hi, Value.int IntKind.i64 b.lots, Value.slice (some { block := tb, off := to' }) b.n cap], Value.tuple #[Value.slice sq sn sc, Value.bool wsb, Value.bool true], Value.slice sq sn sc, Value.bool wsb, Value.bool true, Value.bool true, Value.bool false, Value.int IntKind.u8 x2, Value.int IntKind.i64 x2, Value.pointer (some { block := g0, off := 3 }), Value.slice (some { block := tb, off := to' }) b.n cap, Value.int IntKind.i64 (b.n : Int), Value.int IntKind.i64 (A : Int), Value.int IntKind.u8 x2, Value.int IntKind.i64 x2, Value.int IntKind.i64 (x2 / 4), Value.pointer (some { block := g0, off := 3 }), Value.slice (some { block := tb, off := to' }) b.n cap, Value.int IntKind.i64 (A : Int), Value.pointer (some { block := tb, off := to' + A }), Value.slice tq (b.m A) tc, Value.int IntKind.i64 ↑(b.m A), Value.int IntKind.i64 (kt : Int), Value.agg #[Value.int IntKind.i64 b.lo, Value.int IntKind.i64 b.hi, Value.int IntKind.i64 b.lots, Value.slice (some { block := tb, off := to' }) b.n cap], Value.agg #[Value.int IntKind.i64 b.lo, Value.int IntKind.i64 b.hi, Value.int IntKind.i64 b.lots, Value.slice (some { block := go1, off := 0 }) b.n e1], Value.agg #[Value.int IntKind.i64 b.lo, Value.int IntKind.i64 b.hi, Value.int IntKind.i64 b.lots, Value.slice (some { block := tb, off := to' }) b.n cap], Value.agg #[Value.int IntKind.i64 b.lo, Value.int IntKind.i64 b.hi, Value.int IntKind.i64 b.lots, Value.slice r2 b.n e2], Value.agg #[Value.int IntKind.i64 b.lo, Value.int IntKind.i64 b.hi, Value.int IntKind.i64 b.lots, Value.slice (some { block := tb, off := to' }) b.n cap], Value.agg #[Value.int IntKind.i64 b.lo, Value.int IntKind.i64 b.hi, Value.int IntKind.i64 b.lots, Value.slice r3 b.n e3], Value.pointer (some { block := gx, off := 3 }), Value.slice (some { block := go1, off := 0 }) b.n e1, Value.int IntKind.i64 (A : Int), Value.pointer (some { block := go1, off := A }), Value.slice (some { block := gk1, off := 0 }) (b.m A) ck1, Value.int IntKind.i64 (kt : Int), Value.pointer (some { block := gk1, off := kt * 3 }), Value.pointer (some { block := gk1, off := kt * 3 + 1 }), Value.agg #[Value.int IntKind.i64 lo, Value.int IntKind.i64 hi], Value.int IntKind.u8 x3, Value.int IntKind.i64 x3, Value.pointer (some { block := gr, off := 1 }), Value.int IntKind.i64 hi, Value.pointer (some { block := gr, off := 0 }), Value.int IntKind.i64 lo, Value.int IntKind.i64 (hi - lo), Value.int IntKind.i64 (hi - lo + 1), Value.int IntKind.i64 d0, (bif d 0 then Value.pointer (some { block := gx, off := 3 }) else undef), (bif d 1 then Value.slice (some { block := go1, off := 0 }) b.n e1 else undef), (bif d 2 then Value.int IntKind.i64 ((A : Int)) else undef), (bif d 3 then Value.pointer (some { block := go1, off := A }) else undef), (bif d 4 then Value.slice (some { block := gk1, off := 0 }) (b.m A) ck1 else undef), (bif d 5 then Value.int IntKind.i64 ((kt : Int)) else undef), (bif d 6 then Value.pointer (some { block := gr, off := 0 }) else undef), (bif d 7 then Value.int IntKind.i64 (lo) else undef), (bif d 8 then Value.int IntKind.i64 (d0) else undef), (bif d 9 then Value.int IntKind.i64 (d0 / 2) else undef), (bif d 10 then Value.int IntKind.i64 (l1) else undef), (bif d 11 then Value.pointer (some { block := gr, off := 1 }) else undef), (bif d 12 then Value.int IntKind.i64 (hi) else undef), (bif d 13 then Value.int IntKind.i64 (d0) else undef), (bif d 14 then Value.int IntKind.i64 (d0) else undef), (bif d 15 then Value.int IntKind.i64 (d0 / 2) else undef), (bif d 16 then Value.int IntKind.i64 (d0 - d0 / 2) else undef), (bif d 17 then Value.int IntKind.i64 (h1) else undef), (bif d 18 then Value.agg #[Value.int IntKind.i64 l1, Value.int IntKind.i64 h1] else undef), (bif d 19 then Value.pointer (some { block := gk1, off := kt * 3 }) else undef), (bif d 20 then Value.pointer (some { block := gk1, off := kt * 3 + 1 }) else undef), undef, undef, undef, undef, undef, undef, undef, undef, undef, undef, undef, undef, undef, undef, undef, undef, undef, undef, undef, undef, undef, undef, undef, undef, undef, undef, undef, undef, undef, undef, undef, undef, undef, undef, undef, undef, undef, undef, undef, undef, undef, undef, undef, undef, undef, undef, undef, undef, undef, undef, undef, undef, undef, undef, undef, undef, undef, undef, undef, undef, undef, undef, undef], defers := [] } ∧ Hid (MR2 gk1 kt l1 h1 w4 (d 21) W)) hmx (by kernel_rfl) ?_ ?_ ?_
        · exact ⟨rfl, MR2.start _ _ _ _ _⟩
        · refine ⟨?_, ?_, ?_, ?_, ?_, ?_, ?_, ?_, ?_, ?_, ?_, ?_, ?_, ?_, ?_, ?_, ?_, ?_, ?_, ?_, ?_, ?_, trivial⟩
          · rintro d a W hdi hdep hcl ⟨rfl, hw⟩ K hK
            have E := hcl.facts 0 hdi rfl hdep [] [1, 3, 4, 19, 20, 21] (by kernel_rfl) (by kernel_rfl)
            simp only [AllT, AllF] at E
            clear hdi hdep hcl
            go_simp
            refine hK _ _ ⟨by simp [upd, E], ?_⟩
            first | exact hw | simpa [upd, E] using hw
          · rintro d a W hdi hdep hcl ⟨rfl, hw⟩ K hK
            have E := hcl.facts 1 hdi rfl hdep [0] [3, 4, 19, 20, 21] (by kernel_rfl) (by kernel_rfl)
            simp only [AllT, AllF] at E
            clear hdi hdep hcl
            have hp := hw.out.p (by simp [E])
            have y3 : W.cell? ⟨gx, 3, none⟩ = some (.slice (some ⟨go1, 0, none⟩) b.n e1) := by rw [cell_of_row W _ _ _ _ _ (blkTo (blkTo HBX.out HP34.out) hp)]; rfl
            clear hp
            go_simp
            refine hK _ _ ⟨by simp [upd, E], ?_⟩
            first | exact hw | simpa [upd, E] using hw
          · rintro d a W hdi hdep hcl ⟨rfl, hw⟩ K hK
            have E := hcl.facts 2 hdi rfl hdep [] [3, 4, 19, 20, 21] (by kernel_rfl) (by kernel_rfl)
            simp only [AllT, AllF] at E
            clear hdi hdep hcl
            go_simp
            refine hK _ _ ⟨by simp [upd, E], ?_⟩
            first | exact hw | simpa [upd, E] using hw
          · rintro d a W hdi hdep hcl ⟨rfl, hw⟩ K hK
            have E := hcl.facts 3 hdi rfl hdep [0, 1, 2] [4, 19, 20, 21] (by kernel_rfl) (by kernel_rfl)
            simp only [AllT, AllF] at E
            clear hdi hdep hcl
            go_simp
            refine hK _ _ ⟨by simp [upd, E], ?_⟩
            first | exact hw | simpa [upd, E] using hw
          · rintro d a W hdi hdep hcl ⟨rfl, hw⟩ K hK
            have E := hcl.facts 4 hdi rfl hdep [0, 1, 2, 3] [19, 20, 21] (by kernel_rfl) (by kernel_rfl)
            simp only [AllT, AllF] at E
            clear hdi hdep hcl
            have hp := hw.out.p (by simp [E])
            have y4 := ((pcell (HP34.out.trans hp)).1 _ _ hgo1).trans HGC1.out
            clear hp
            go_simp
            refine hK _ _ ⟨by simp [upd, E], ?_⟩
            first | exact hw | simpa [upd, E] using hw
          · rintro d a W hdi hdep hcl ⟨rfl, hw⟩ K hK
            have E := hcl.facts 5 hdi rfl hdep [] [19, 20, 21] (by kernel_rfl) (by kernel_rfl)
            simp only [AllT, AllF] at E
            clear hdi hdep hcl
            go_simp
            refine hK _ _ ⟨by simp [upd, E], ?_⟩
            first | exact hw | simpa [upd, E] using hw
          · rintro d a W hdi hdep hcl ⟨rfl, hw⟩ K hK
            have E := hcl.facts 6 hdi rfl hdep [] [7, 10, 18, 19, 20, 21] (by kernel_rfl) (by kernel_rfl)
            simp only [AllT, AllF] at E
            clear hdi hdep hcl
            go_simp
            refine hK _ _ ⟨by simp [upd, E], ?_⟩
            first | exact hw | simpa [upd, E] using hw
          · rintro d a W hdi hdep hcl ⟨rfl, hw⟩ K hK
            have E := hcl.facts 7 hdi rfl hdep [6] [10, 18, 19, 20, 21] (by kernel_rfl) (by kernel_rfl)
            simp only [AllT, AllF] at E
            clear hdi hdep hcl
            have hp := hw.out.p (by simp [E])
            have y5 : W.cell? ⟨gr, 0, none⟩ = some (.int .i64 lo) := by rw [cell_of_row W _ _ _ _ _ (blkTo HBR.out hp)]; rfl
            clear hp
            go_simp
            refine hK _ _ ⟨by simp [upd, E], ?_⟩
            first | exact hw | simpa [upd, E] using hw
          · rintro d a W hdi hdep hcl ⟨rfl, hw⟩ K hK
            have E := hcl.facts 8 hdi rfl hdep [] [9, 10, 18, 19, 20, 21] (by kernel_rfl) (by kernel_rfl)
            simp only [AllT, AllF] at E
            clear hdi hdep hcl
            go_simp
            refine hK _ _ ⟨by simp [upd, E], ?_⟩
            first | exact hw | simpa [upd, E] using hw
          · rintro d a W hdi hdep hcl ⟨rfl, hw⟩ K hK
            have E := hcl.facts 9 hdi rfl hdep [8] [10, 18, 19, 20, 21] (by kernel_rfl) (by kernel_rfl)
            simp only [AllT, AllF] at E
            clear hdi hdep hcl
            have hwx : IntKind.i64.wrap (d0 / 2) = d0 / 2 := IntWalk.i64_in _ (by omega)
            have hwt : d0.tdiv 2 = d0 / 2 := Int.tdiv_eq_ediv_of_nonneg hd0
            go_simp
            refine hK _ _ ⟨by simp [upd, E], ?_⟩
            first | exact hw | simpa [upd, E] using hw
          · rintro d a W hdi hdep hcl ⟨rfl, hw⟩ K hK
            have E := hcl.facts 10 hdi rfl hdep [6, 7, 8, 9] [18, 19, 20, 21] (by kernel_rfl) (by kernel_rfl)
            simp only [AllT, AllF] at E
            clear hdi hdep hcl
            have hwx : IntKind.i64.wrap (lo + d0 / 2) = l1 := by rw [HL1.out]; exact IntWalk.i64_in _ (by omega)
            go_simp
            refine hK _ _ ⟨by simp [upd, E], ?_⟩
            first | exact hw | simpa [upd, E] using hw
          · rintro d a W hdi hdep hcl ⟨rfl, hw⟩ K hK
            have E := hcl.facts 11 hdi rfl hdep [] [12, 17, 18, 19, 20, 21] (by kernel_rfl) (by kernel_rfl)
            simp only [AllT, AllF] at E
            clear hdi hdep hcl
            go_simp
            refine hK _ _ ⟨by simp [upd, E], ?_⟩
            first | exact hw | simpa [upd, E] using hw
          · rintro d a W hdi hdep hcl ⟨rfl, hw⟩ K hK
            have E := hcl.facts 12 hdi rfl hdep [11] [17, 18, 19, 20, 21] (by kernel_rfl) (by kernel_rfl)
            simp only [AllT, AllF] at E
            clear hdi hdep hcl
            have hp := hw.out.p (by simp [E])
            have y5 : W.cell? ⟨gr, 1, none⟩ = some (.int .i64 hi) := by rw [cell_of_row W _ _ _ _ _ (blkTo HBR.out hp)]; rfl
            clear hp
            go_simp
            refine hK _ _ ⟨by simp [upd, E], ?_⟩
            first | exact hw | simpa [upd, E] using hw
          · rintro d a W hdi hdep hcl ⟨rfl, hw⟩ K hK
            have E := hcl.facts 13 hdi rfl hdep [] [16, 17, 18, 19, 20, 21] (by kernel_rfl) (by kernel_rfl)
            simp only [AllT, AllF] at E
            clear hdi hdep hcl
            go_simp
            refine hK _ _ ⟨by simp [upd, E], ?_⟩
            first | exact hw | simpa [upd, E] using hw
          · rintro d a W hdi hdep hcl ⟨rfl, hw⟩ K hK
            have E := hcl.facts 14 hdi rfl hdep [] [15, 16, 17, 18, 19, 20, 21] (by kernel_rfl) (by kernel_rfl)
            simp only [AllT, AllF] at E
            clear hdi hdep hcl
            go_simp
            refine hK _ _ ⟨by simp [upd, E], ?_⟩
            first | exact hw | simpa [upd, E] using hw
          · rintro d a W hdi hdep hcl ⟨rfl, hw⟩ K hK
            have E := hcl.facts 15 hdi rfl hdep [14] [16, 17, 18, 19, 20, 21] (by kernel_rfl) (by kernel_rfl)
            simp only [AllT, AllF] at E
            clear hdi hdep hcl
            have hwx : IntKind.i64.wrap (d0 / 2) = d0 / 2 := IntWalk.i64_in _ (by omega)
            have hwt : d0.tdiv 2 = d0 / 2 := Int.tdiv_eq_ediv_of_nonneg hd0
            go_simp
            refine hK _ _ ⟨by simp [upd, E], ?_⟩
            first | exact hw | simpa [upd, E] using hw
          · rintro d a W hdi hdep hcl ⟨rfl, hw⟩ K hK
            have E := hcl.facts 16 hdi rfl hdep [13, 14, 15] [17, 18, 19, 20, 21] (by kernel_rfl) (by kernel_rfl)
            simp only [AllT, AllF] at E
            clear hdi hdep hcl
            have hwx : IntKind.i64.wrap (d0 - d0 / 2) = d0 - d0 / 2 := IntWalk.i64_in _ (by omega)
            go_simp
            refine hK _ _ ⟨by simp [upd, E], ?_⟩
            first | exact hw | simpa [upd, E] using hw
          · rintro d a W hdi hdep hcl ⟨rfl, hw⟩ K hK
            have E := hcl.facts 17 hdi rfl hdep [11, 12, 13, 14, 15, 16] [18, 19, 20, 21] (by kernel_rfl) (by kernel_rfl)
            simp only [AllT, AllF] at E
            clear hdi hdep hcl
            have hwx : IntKind.i64.wrap (hi - (d0 - d0 / 2)) = h1 := by rw [HH1.out]; exact IntWalk.i64_in _ (by omega)
            go_simp
            refine hK _ _ ⟨by simp [upd, E], ?_⟩
            first | exact hw | simpa [upd, E] using hw
          · rintro d a W hdi hdep hcl ⟨rfl, hw⟩ K hK
            have E := hcl.facts 18 hdi rfl hdep [6, 7, 8, 9, 10, 11, 12, 13, 14, 15, 16, 17] [19, 20, 21] (by kernel_rfl) (by kernel_rfl)
            simp only [AllT, AllF] at E
            clear hdi hdep hcl
            have h := hw.out
            rw [show d 21 = false by simp [E]] at h
            go_simp
            refine (to_any _ _ _).mono ?_
            rintro e w99 ⟨rfl, hp6⟩
            exact hK _ _ ⟨by simp [upd, E], by rw [show upd d 18 21 = false by simp [upd, E]]; exact h.to hp6⟩
          · rintro d a W hdi hdep hcl ⟨rfl, hw⟩ K hK
            have E := hcl.facts 19 hdi rfl hdep [0, 1, 2, 3, 4, 5, 6, 7, 8, 9, 10, 11, 12, 13, 14, 15, 16, 17, 18] [20, 21] (by kernel_rfl) (by kernel_rfl)
            simp only [AllT, AllF] at E
            clear hdi hdep hcl
            have hmm : kt * 3 + 2 < ck1 * 3 := by omega
            go_simp
            refine hK _ _ ⟨by simp [upd, E], ?_⟩
            first | exact hw | simpa [upd, E] using hw
          · rintro d a W hdi hdep hcl ⟨rfl, hw⟩ K hK
            have E := hcl.facts 20 hdi rfl hdep [0, 1, 2, 3, 4, 5, 6, 7, 8, 9, 10, 11, 12, 13, 14, 15, 16, 17, 18, 19] [21] (by kernel_rfl) (by kernel_rfl)
            simp only [AllT, AllF] at E
            clear hdi hdep hcl
            go_simp
            refine hK _ _ ⟨by simp [upd, E], ?_⟩
            first | exact hw | simpa [upd, E] using hw
          · rintro d a W hdi hdep hcl ⟨rfl, hw⟩ K hK
            have E := hcl.facts 21 hdi rfl hdep [0, 1, 2, 3, 4, 5, 6, 7, 8, 9, 10, 11, 12, 13, 14, 15, 16, 17, 18, 19, 20] [] (by kernel_rfl) (by kernel_rfl)
            simp only [AllT, AllF] at E
            clear hdi hdep hcl
            have h := hw.out
            rw [show d 21 = false by simp [E]] at h
            have hp := h.p rfl
            have z2 := ((pcell (HP34.out.trans hp)).1 _ _ hgk1).trans HS2.out
            have z3 := ((pcell (HP34.out.trans hp)).1 _ _ hgk1).trans HS3.out
            have zf : ∀ o, W.frozen? ⟨gk1, o, none⟩ = false := fun o => ((pcell (HP34.out.trans hp)).2 _ _ hgk1).trans (HFZ.out o)
            have HH := Lib.hid h.store
            clear h hp
            go_simp
            refine hK _ _ ⟨by simp [upd, E], ?_⟩
            rw [show upd d 21 21 = true by simp [upd, E]]
            exact HH.out
        · rintro d a W hall ⟨rfl, hw⟩
          have E := AllT.all hall [0, 1, 2, 3, 4, 5, 6, 7, 8, 9, 10, 11, 12, 13, 14, 15, 16, 17, 18, 19, 20, 21] (by kernel_rfl)
          simp only [AllT] at E
          simp only [E, cond_true] at hw ⊢
          clear E hall
          obtain ⟨W0, hp0', hW0⟩ := hw.out.y rfl
          have hp0 : Pure w3 W0 := HP34.out.trans hp0'
          have hgg : go1 ≠ gk1 := fun e => by obtain ⟨_, cur, h5⟩ := HC1.out.out; obtain ⟨go', gk', ck', F', e1', _, _, e4, e5, _⟩ := HC1.out.s.sit hAN; cases e1'; rw [HGC1.out] at e4; cases e4; obtain ⟨cs', h6, -⟩ := e5.row; rw [← e, h5] at h6; simp at h6
          have k1 : SamI w2.heap.size W (.slice (some ⟨go1, 0, none⟩) b.n e1) (b.say A kt l1 h1) b.n := by
            obtain ⟨go', gk', ck', F', e1', _, _, e4, e5, hh⟩ := (HC1.out.s.pure hp0).sit hAN
            cases e1'
            rw [((pcell hp0).1 _ _ hgo1).trans HGC1.out] at e4
            cases e4
            rw [hW0]
            exact hh kt hKm l1 h1
          have k1' : Cp w2.heap.size B2 W (some ⟨go1, 0, none⟩) e1 (b.say A kt l1 h1) := ⟨k1, fun go e => by
            cases e
            obtain ⟨u1, u2⟩ := HC1.out.u go1 rfl
            refine ⟨u1, fun j hj g m ck hcl => u2 j hj g m ck ?_⟩
            rw [← hcl, hW0]
            exact (((World.cell?_of_block (w := W0) ((Go.Deep.blk_setCell_other _ _ _ _ hgg).trans (Go.Deep.blk_setCell_other _ _ _ _ hgg))).trans ((pcell hp0).1 _ _ hgo1))).symm⟩
          have k2 : Cp B2 B3 W r2 e2 b := by rw [hW0]; exact ((HC2.out.to hp0).set hgkH _ _).set hgkH _ _
          have k3 : SamI B3 W (.slice r3 b.n e3) b b.n := by rw [hW0]; exact ((HC3.out.pure hp0).set (by omega) _ _).set (by omega) _ _
          have bk : ∀ g O, g ≠ gk1 → w3.heap[g]? = some O → W.heap[g]? = some O := fun g O hg h => by rw [hW0]; exact (Go.Deep.blk_setCell_other _ _ _ _ hg).trans ((Go.Deep.blk_setCell_other _ _ _ _ hg).trans (blkTo h hp0))
          have bX := bk gx _ hgkx HBX.out
          have bY := bk gy _ hgky HBY.out
          have bZ := bk gz _ hgkz HBZ.out
          have hpW : Pure w2 W := by rw [hW0]; exact (((hp3q.trans hp0).setCell (p := ⟨gk1, kt * 3 + 1, none⟩) (fun h => by have h' : gk1 < w2.heap.size := h; omega) _).setCell (p := ⟨gk1, kt * 3 + 2, none⟩) (fun h => by have h' : gk1 < w2.heap.size := h; omega) _)
          have hsz3 : w3.heap.size ≤ W.heap.size := by rw [hW0]; exact Nat.le_trans hp0.size (((Diff.refl (O := fun _ => True) W0).setCell (fun _ => trivial) _).setCell (fun _ => trivial) _).size
          obtain ⟨w5, hw5⟩ : ∃ V, W = V := ⟨_, rfl⟩
          rw [hw5] at k1' k2 k3 bX bY bZ hpW hsz3 ⊢
          have hB3w5 : B3 ≤ w5.heap.size := by omega
          have HK1 := Lib.hid k1'
          have HK2 := Lib.hid k2
          have HK3 := Lib.hid k3
          have HBX5 := Lib.hid bX
          have HBY5 := Lib.hid bY
          have HBZ5 := Lib.hid bZ
          have HPW5 := Lib.hid hpW
          clear hw hp0 hp0' hW0 W0 k1 k1' k2 k3 bk bX bY bZ hpW hsz3 hw5 W d HBX HBY HBZ HC1 HC2 HC3 hgg HS1 HS2 HS3 HGC1 HSAY HFZ HP34 HBR HB3 HG3 HM3 HSP3 HA3 hP3
          obtain ⟨za0, za1, za2, za3, zal⟩ := HAQ.out.pure HPW5.out
          have yb0 : w5.cell? ⟨gy, 0, none⟩ = some (.int .i64 b.lo) := by rw [cell_of_row w5 _ _ _ _ _ HBY5.out]; rfl
          have yb1 : w5.cell? ⟨gy, 1, none⟩ = some (.int .i64 b.hi) := by rw [cell_of_row w5 _ _ _ _ _ HBY5.out]; rfl
          have yfz : ∀ o, w5.frozen? ⟨gy, o, none⟩ = false := fun o => frozen_of_row w5 _ o _ _ HBY5.out
          have hgyl : gy < w5.heap.size := (Array.getElem?_eq_some_iff.1 HBY5.out).1
          have hf0 : 0 ≤ x3 % (b.hi - b.lo + 1) := Int.emod_nonneg _ (by omega)
          have hf1 : x3 % (b.hi - b.lo + 1) < b.hi - b.lo + 1 := Int.emod_lt_of_pos _ (by omega)
          have hfz : ¬ b.hi - b.lo + 1 = 0 := by omega
          obtain ⟨d1, hd1'⟩ : ∃ x, x3 % (b.hi - b.lo + 1) = x := ⟨_, rfl⟩
          rw [hd1'] at hf0 hf1
          have hzz := trivial
          go_wp2_with fail
          refine (to_any _ _ _).mono ?_
          rintro e w5' ⟨rfl, hp⟩
          obtain ⟨l2, hl2⟩ : ∃ x, b.lo + d1 / 2 = x := ⟨_, rfl⟩
          obtain ⟨h2, hh2⟩ : ∃ x, b.hi - (d1 - d1 / 2) = x := ⟨_, rfl⟩
          have n1 : b.lo ≤ l2 := by omega
          have n2 : l2 ≤ h2 := by omega
          have n3 : h2 ≤ b.hi := by omega
          rw [hl2, hh2]
          have bX := blkTo HBX5.out hp
          have bY := blkTo HBY5.out hp
          have bZ := blkTo HBZ5.out hp
          have k1 := HK1.out.to hp
          have k2 := HK2.out.to hp
          have k3 := HK3.out.pure hp
          have hpW := HPW5.out.trans hp
          have yb0' : w5'.cell? ⟨gy, 0, none⟩ = some (.int .i64 b.lo) := by rw [cell_of_row w5' _ _ _ _ _ bY]; rfl
          have yb1' : w5'.cell? ⟨gy, 1, none⟩ = some (.int .i64 b.hi) := by rw [cell_of_row w5' _ _ _ _ _ bY]; rfl
          have yfz' : ∀ o, w5'.frozen? ⟨gy, o, none⟩ = false := fun o => frozen_of_row w5' _ o _ _ bY
          have hsz5 := hp.size
          have HbX := Lib.hid bX
          have HbY := Lib.hid bY
          have HbZ := Lib.hid bZ
          have Hk1 := Lib.hid k1
          have Hk2 := Lib.hid k2
          have Hk3 := Lib.hid k3
          have HpW := Lib.hid hpW
          clear yb0 yb1 yfz hd1' hl2 hh2 bX bY bZ k1 k2 k3 hpW za0 za1 za2 za3 zal hp HBX5 HBY5 HBZ5 HK1 HK2 HK3 HPW5
          go_wp2_with fail
          obtain ⟨w6, hw6⟩ : ∃ V, (w5'.setCell ⟨gy, 0, none⟩ (.int .i64 l2)).setCell ⟨gy, 1, none⟩ (.int .i64 h2) = V := ⟨_, rfl⟩
          have bY := setBlk (o := 1) (u := .int .i64 h2) (setBlk (o := 0) (u := .int .i64 l2) HbY.out)
          have bX : w6.heap[gx]? = some (.cells (bookC b (some ⟨go1, 0, none⟩) e1) 26 (0, 0)) := by rw [← hw6]; exact (Go.Deep.blk_setCell_other _ _ _ _ hn1).trans ((Go.Deep.blk_setCell_other _ _ _ _ hn1).trans HbX.out)
          have bZ : w6.heap[gz]? = some (.cells (bookC b r3 e3) 26 (0, 0)) := by rw [← hw6]; exact (Go.Deep.blk_setCell_other _ _ _ _ hn3.symm).trans ((Go.Deep.blk_setCell_other _ _ _ _ hn3.symm).trans HbZ.out)
          have bY' : w6.heap[gy]? = some (.cells (bookC (b.rate l2 h2) r2 e2) 26 (0, 0)) := by rw [← hw6]; exact bY
          have k1 : Cp w2.heap.size B2 w6 (some ⟨go1, 0, none⟩) e1 (b.say A kt l1 h1) := by rw [← hw6]; exact (Hk1.out.setBox HbY.out 0 _).setBox (setBlk HbY.out) 1 _
          have k2 : Cp B2 B3 w6 r2 e2 b := by rw [← hw6]; exact (Hk2.out.setBox HbY.out 0 _).setBox (setBlk HbY.out) 1 _
          have k3 : SamI B3 w6 (.slice r3 b.n e3) b b.n := by rw [← hw6]; exact (((Cp.of Hk3.out).setBox HbY.out 0 _).setBox (setBlk HbY.out) 1 _).s
          have hpW : Pure w2 w6 := by rw [← hw6]; exact (HpW.out.setCell (p := ⟨gy, 0, none⟩) (fun h => by have h' : gy < w2.heap.size := h; omega) _).setCell (p := ⟨gy, 1, none⟩) (fun h => by have h' : gy < w2.heap.size := h; omega) _
          have hsz6 : w5'.heap.size ≤ w6.heap.size := by rw [← hw6]; exact (((Diff.refl (O := fun _ => True) w5').setCell (fun _ => trivial) _).setCell (fun _ => trivial) _).size
          have hB36 : B3 ≤ w6.heap.size := by omega
          rw [hw6]
          clear hw6 bY
          obtain ⟨go3, gk3, ck3, F3, hr3, hB3o, hgo3, hgoc3, hsit3, -⟩ := k3.sit hAN
          subst hr3
          have hgk3 : B3 ≤ gk3 := hsit3.low
          have t26 : ∀ (g : Nat) (cs : Array Value), w6.heap[g]? = some (Obj.cells cs 26 (0, 0)) → g ≠ gk3 ∧ g ≠ go3 := fun g cs h => ⟨fun e => by obtain ⟨cs', h4, -⟩ := hsit3.row; rw [e, h4] at h; simp at h, fun e => by obtain ⟨_, cur, h5⟩ := (Cp.of k3).out; rw [e, h5] at h; simp at h⟩
          have HBX := Lib.hid bX
          have HBY := Lib.hid bY'
          have HBZ := Lib.hid bZ
          have HK1 := Lib.hid k1
          have HK2 := Lib.hid k2
          have HK3 := Lib.hid k3
          have HPW := Lib.hid hpW
          have HGC3 := Lib.hid hgoc3
          have HT26 := Lib.hid t26
          clear bX bY' bZ k1 k2 k3 hpW hgoc3 t26 hsit3 HbX HbY HbZ Hk1 Hk2 Hk3 HpW yb0' yb1' yfz'
          refine reg_invW (fun d a W => ∃ (eb9 g9 c9 : Nat), a = { tmps := #[bookV b (some { block := tb, off := to' }) cap, Value.int IntKind.u8 x2, Value.int IntKind.u8 x3, Value.agg #[Value.int IntKind.i64 ts.lot, Value.int IntKind.i64 ts.lo, Value.int IntKind.i64 ts.hi], Value.pointer (some { block := g0, off := 0 }), undef, undef, Value.pointer (some { block := gm, off := 0 }), Value.bool false, Value.slice sq sn sc, Value.bool wsb, Value.bool true, Value.int IntKind.i64 (A : Int), Value.int IntKind.i64 (kt : Int), Value.pointer (some { block := gx, off := 0 }), Value.pointer (some { block := gy, off := 0 }), Value.pointer (some { block := gz, off := 0 }), Value.pointer (some { block := gr, off := 0 }), Value.int IntKind.i64 (x3 % (b.hi - b.lo + 1)), Value.agg #[Value.int IntKind.i64 b.lo, Value.int IntKind.i64 b.hi, Value.int IntKind.i64 b.lots, Value.slice (some { block := tb, off := to' }) b.n cap], Value.bool true, Value.bool false, Value.bool false, Value.pointer (some { block := g0, off := 3 }), Value.slice (some { block := tb, off := to' }) b.n cap, Value.int IntKind.i64 (b.n : Int), Value.bool false, Value.bool false, undef, Value.tuple #[Value.slice sq sn sc, Value.bool wsb, Value.bool true], Value.agg #[Value.int IntKind.i64 b.lo, Value.int IntKind.i64 b.hi, Value.int IntKind.i64 b.lots, Value.slice (some { block := tb, off := to' }) b.n cap], Value.tuple #[Value.slice sq sn sc, Value.bool wsb, Value.bool true], Value.slice sq sn sc, Value.bool wsb, Value.bool true, Value.bool true, Value.bool false, Value.int IntKind.u8 x2, Value.int IntKind.i64 x2, Value.pointer (some { block := g0, off := 3 }), Value.slice (some { block := tb, off := to' }) b.n cap, Value.int IntKind.i64 (b.n : Int), Value.int IntKind.i64 (A : Int), Value.int IntKind.u8 x2, Value.int IntKind.i64 x2, Value.int IntKind.i64 (x2 / 4), Value.pointer (some { block := g0, off := 3 }), Value.slice (some { block := tb, off := to' }) b.n cap, Value.int IntKind.i64 (A : Int), Value.pointer (some { block := tb, off := to' + A }), Value.slice tq (b.m A) tc, Value.int IntKind.i64 ↑(b.m A), Value.int IntKind.i64 (kt : Int), Value.agg #[Value.int IntKind.i64 b.lo, Value.int IntKind.i64 b.hi, Value.int IntKind.i64 b.lots, Value.slice (some { block := tb, off := to' }) b.n cap], Value.agg #[Value.int IntKind.i64 b.lo, Value.int IntKind.i64 b.hi, Value.int IntKind.i64 b.lots, Value.slice (some { block := go1, off := 0 }) b.n e1], Value.agg #[Value.int IntKind.i64 b.lo, Value.int IntKind.i64 b.hi, Value.int IntKind.i64 b.lots, Value.slice (some { block := tb, off := to' }) b.n cap], Value.agg #[Value.int IntKind.i64 b.lo, Value.int IntKind.i64 b.hi, Value.int IntKind.i64 b.lots, Value.slice r2 b.n e2], Value.agg #[Value.int IntKind.i64 b.lo, Value.int IntKind.i64 b.hi, Value.int IntKind.i64 b.lots, Value.slice (some { block := tb, off := to' }) b.n cap], Value.agg #[Value.int IntKind.i64 b.lo, Value.int IntKind.i64 b.hi, Value.int IntKind.i64 b.lots, Value.slice (some { block := go3, off := 0 }) b.n e3], Value.pointer (some { block := gx, off := 3 }), Value.slice (some { block := go1, off := 0 }) b.n e1, Value.int IntKind.i64 (A : Int), Value.pointer (some { block := go1, off := A }), Value.slice (some { block := gk1, off := 0 }) (b.m A) ck1, Value.int IntKind.i64 (kt : Int), Value.pointer (some { block := gk1, off := kt * 3 }), Value.pointer (some { block := gk1, off := kt * 3 + 1 }), Value.agg #[Value.int IntKind.i64 lo, Value.int IntKind.i64 hi], Value.int IntKind.u8 x3, Value.int IntKind.i64 x3, Value.pointer (some { block := gr, off := 1 }), Value.int IntKind.i64 hi, Value.pointer (some { block := gr, off := 0 }), Value.int IntKind.i64 lo, Value.int IntKind.i64 (hi - lo), Value.int IntKind.i64 (hi - lo + 1), Value.int IntKind.i64 d0, Value.pointer (some { block := gx, off := 3 }), Value.slice (some { block := go1, off := 0 }) b.n e1, Value.int IntKind.i64 (A : Int), Value.pointer (some { block := go1, off := A }), Value.slice (some { block := gk1, off := 0 }) (b.m A) ck1, Value.int IntKind.i64 (kt : Int), Value.pointer (some { block := gr, off := 0 }), Value.int IntKind.i64 lo, Value.int IntKind.i64 d0, Value.int IntKind.i64 (d0 / 2), Value.int IntKind.i64 l1, Value.pointer (some { block := gr, off := 1 }), Value.int IntKind.i64 hi, Value.int IntKind.i64 d0, Value.int IntKind.i64 d0, Value.int IntKind.i64 (d0 / 2), Value.int IntKind.i64 (d0 - d0 / 2), Value.int IntKind.i64 h1, Value.agg #[Value.int IntKind.i64 l1, Value.int IntKind.i64 h1], Value.pointer (some { block := gk1, off := kt * 3 }), Value.pointer (some { block := gk1, off := kt * 3 + 1 }), Value.int IntKind.u8 x3, Value.int IntKind.i64 x3, Value.pointer (some { block := g0, off := 0 }), Value.pointer (some { block := g0, off := 1 }), Value.int IntKind.i64 b.hi, Value.pointer (some { block := g0, off := 0 }), Value.pointer (some { block := g0, off := 0 }), Value.int IntKind.i64 b.lo, Value.int IntKind.i64 (b.hi - b.lo), Value.int IntKind.i64 (b.hi - b.lo + 1), Value.int IntKind.i64 (x3 % (b.hi - b.lo + 1)), Value.pointer (some { block := g0, off := 0 }), Value.pointer (some { block := g0, off := 0 }), Value.int IntKind.i64 b.lo, Value.int IntKind.i64 (x3 % (b.hi - b.lo + 1)), Value.int IntKind.i64 (d1 / 2), Value.int IntKind.i64 l2, Value.pointer (some { block := g0, off := 0 }), Value.pointer (some { block := g0, off := 1 }), Value.int IntKind.i64 b.hi, Value.int IntKind.i64 (x3 % (b.hi - b.lo + 1)), Value.int IntKind.i64 (x3 % (b.hi - b.lo + 1)), Value.int IntKind.i64 (d1 / 2), Value.int IntKind.i64 (d1 - d1 / 2), Value.int IntKind.i64 h2, Value.agg #[Value.int IntKind.i64 l2, Value.int IntKind.i64 h2], Value.pointer (some { block := gy, off := 0 }), (bif d 0 then Value.pointer (some { block := gz, off := 3 }) else undef), (bif d 1 then Value.slice (some { block := go3, off := 0 }) b.n e3 else undef), (bif d 2 then Value.int IntKind.i64 ((A : Int)) else undef), (bif d 3 then Value.pointer (some { block := gz, off := 3 }) else undef), (bif d 4 then Value.slice (some { block := go3, off := 0 }) b.n e3 else undef), (bif d 5 then Value.int IntKind.i64 ((A : Int)) else undef), (bif d 6 then Value.pointer (some { block := go3, off := A }) else undef), (bif d 7 then Value.slice (some { block := gk3, off := 0 }) (b.m A) ck3 else undef), (bif d 8 then Value.agg #[Value.int IntKind.i64 ts.lot, Value.int IntKind.i64 ts.lo, Value.int IntKind.i64 ts.hi] else undef), (bif d 9 then Value.slice (some { block := eb9, off := 0 }) 1 1 else undef), (bif d 10 then Value.slice (some { block := g9, off := 0 }) (b.m A + 1) c9 else undef), (bif d 11 then Value.pointer (some { block := go3, off := A }) else undef), undef, undef, undef, undef, undef, undef, undef, undef, undef, undef, undef, undef, undef, undef, undef, undef, undef, undef, undef, undef, undef, undef, undef, undef], defers := [] } ∧ Hid (NR b A ts go3 gk3 ck3 w6 eb9 g9 c9 (d 9) (d 10) (d 12) W)) hmx (by kernel_rfl) ?_ ?_ ?_
          · exact ⟨0, 0, 0, rfl, NR.start _ _ _ _ _ _ _ _ _ _⟩
          · refine ⟨?_, ?_, ?_, ?_, ?_, ?_, ?_, ?_, ?_, ?_, ?_, ?_, ?_, trivial⟩
            · rintro d a W hdi hdep hcl ⟨eb9, g9, c9, rfl, hw⟩ K hK
              have E := hcl.facts 0 hdi rfl hdep [] [1, 11, 12] (by kernel_rfl) (by kernel_rfl)
              simp only [AllT, AllF] at E
              clear hdi hdep hcl
              go_simp
              refine hK _ _ ⟨eb9, g9, c9, by simp [upd, E], ?_⟩
              first | exact hw | simpa [upd, E] using hw
            · rintro d a W hdi hdep hcl ⟨eb9, g9, c9, rfl, hw⟩ K hK
              have E := hcl.facts 1 hdi rfl hdep [0] [11, 12] (by kernel_rfl) (by kernel_rfl)
              simp only [AllT, AllF] at E
              clear hdi hdep hcl
              have hq := hw.out.q (by simp [E])
              have y3 : W.cell? ⟨gz, 3, none⟩ = some (.slice (some ⟨go3, 0, none⟩) b.n e3) := by rw [cell_of_row W _ _ _ _ _ ((hq.block gz (Array.getElem?_eq_some_iff.1 HBZ.out).1 (HT26.out gz _ HBZ.out).1).trans HBZ.out)]; rfl
              clear hq
              go_simp
              refine hK _ _ ⟨eb9, g9, c9, by simp [upd, E], ?_⟩
              first | exact hw | simpa [upd, E] using hw
            · rintro d a W hdi hdep hcl ⟨eb9, g9, c9, rfl, hw⟩ K hK
              have E := hcl.facts 2 hdi rfl hdep [] [11, 12] (by kernel_rfl) (by kernel_rfl)
              simp only [AllT, AllF] at E
              clear hdi hdep hcl
              go_simp
              refine hK _ _ ⟨eb9, g9, c9, by simp [upd, E], ?_⟩
              first | exact hw | simpa [upd, E] using hw
            · rintro d a W hdi hdep hcl ⟨eb9, g9, c9, rfl, hw⟩ K hK
              have E := hcl.facts 3 hdi rfl hdep [] [4, 6, 7, 10, 11, 12] (by kernel_rfl) (by kernel_rfl)
              simp only [AllT, AllF] at E
              clear hdi hdep hcl
              go_simp
              refine hK _ _ ⟨eb9, g9, c9, by simp [upd, E], ?_⟩
              first | exact hw | simpa [upd, E] using hw
            · rintro d a W hdi hdep hcl ⟨eb9, g9, c9, rfl, hw⟩ K hK
              have E := hcl.facts 4 hdi rfl hdep [3] [6, 7, 10, 11, 12] (by kernel_rfl) (by kernel_rfl)
              simp only [AllT, AllF] at E
              clear hdi hdep hcl
              have hp := hw.out.p (by simp [E])
              have y3 : W.cell? ⟨gz, 3, none⟩ = some (.slice (some ⟨go3, 0, none⟩) b.n e3) := by rw [cell_of_row W _ _ _ _ _ (blkTo HBZ.out hp)]; rfl
              clear hp
              go_simp
              refine hK _ _ ⟨eb9, g9, c9, by simp [upd, E], ?_⟩
              first | exact hw | simpa [upd, E] using hw
            · rintro d a W hdi hdep hcl ⟨eb9, g9, c9, rfl, hw⟩ K hK
              have E := hcl.facts 5 hdi rfl hdep [] [6, 7, 10, 11, 12] (by kernel_rfl) (by kernel_rfl)
              simp only [AllT, AllF] at E
              clear hdi hdep hcl
              go_simp
              refine hK _ _ ⟨eb9, g9, c9, by simp [upd, E], ?_⟩
              first | exact hw | simpa [upd, E] using hw
            · rintro d a W hdi hdep hcl ⟨eb9, g9, c9, rfl, hw⟩ K hK
              have E := hcl.facts 6 hdi rfl hdep [3, 4, 5] [7, 10, 11, 12] (by kernel_rfl) (by kernel_rfl)
              simp only [AllT, AllF] at E
              clear hdi hdep hcl
              go_simp
              refine hK _ _ ⟨eb9, g9, c9, by simp [upd, E], ?_⟩
              first | exact hw | simpa [upd, E] using hw
            · rintro d a W hdi hdep hcl ⟨eb9, g9, c9, rfl, hw⟩ K hK
              have E := hcl.facts 7 hdi rfl hdep [3, 4, 5, 6] [10, 11, 12] (by kernel_rfl) (by kernel_rfl)
              simp only [AllT, AllF] at E
              clear hdi hdep hcl
              have hp := hw.out.p (by simp [E])
              have y4 := ((pcell hp).1 _ _ hgo3).trans HGC3.out
              clear hp
              go_simp
              refine hK _ _ ⟨eb9, g9, c9, by simp [upd, E], ?_⟩
              first | exact hw | simpa [upd, E] using hw
            · rintro d a W hdi hdep hcl ⟨eb9, g9, c9, rfl, hw⟩ K hK
              have E := hcl.facts 8 hdi rfl hdep [] [9, 10, 11, 12] (by kernel_rfl) (by kernel_rfl)
              simp only [AllT, AllF] at E
              clear hdi hdep hcl
              have hp := hw.out.p (by simp [E])
              have y0 : W.cell? ⟨gm, 0, none⟩ = some (.int .i64 ts.lot) := by rw [cell_of_row W _ _ _ _ _ (HMQ.out.to (HPW.out.trans hp))]; rfl
              have y1 : W.cell? ⟨gm, 1, none⟩ = some (.int .i64 ts.lo) := by rw [cell_of_row W _ _ _ _ _ (HMQ.out.to (HPW.out.trans hp))]; rfl
              have y2 : W.cell? ⟨gm, 2, none⟩ = some (.int .i64 ts.hi) := by rw [cell_of_row W _ _ _ _ _ (HMQ.out.to (HPW.out.trans hp))]; rfl
              clear hp
              go_simp
              refine hK _ _ ⟨eb9, g9, c9, by simp [upd, E], ?_⟩
              first | exact hw | simpa [upd, E] using hw
            · rintro d a W hdi hdep hcl ⟨eb9, g9, c9, rfl, hw⟩ K hK
              have E := hcl.facts 9 hdi rfl hdep [8] [10, 11, 12] (by kernel_rfl) (by kernel_rfl)
              simp only [AllT, AllF] at E
              clear hdi hdep hcl
              have h := hw.out
              rw [show d 9 = false by simp [E], show d 10 = false by simp [E], show d 12 = false by simp [E]] at h
              go_simp
              exact hK _ _ ⟨W.heap.size, g9, c9, by simp [upd, E], by rw [show upd d 9 9 = true by simp [upd, E], show upd d 9 10 = false by simp [upd, E], show upd d 9 12 = false by simp [upd, E]]; exact h.list⟩
            · rintro d a W hdi hdep hcl ⟨eb9, g9, c9, rfl, hw⟩ K hK
              have E := hcl.facts 10 hdi rfl hdep [3, 4, 5, 6, 7, 8, 9] [11, 12] (by kernel_rfl) (by kernel_rfl)
              simp only [AllT, AllF] at E
              clear hdi hdep hcl
              have h := hw.out
              rw [show d 9 = true by simp [E], show d 10 = false by simp [E], show d 12 = false by simp [E]] at h
              obtain ⟨gN, cN, w', hr, h'⟩ := h.push HK3.out hAN (by omega) hB36 hgo3 HGC3.out
              refine Eq.mpr (if_pos rfl) ?_
              refine operW_append (.tmp 132) (.tmp 134) 59 rfl (.slice (some ⟨gk3, 0, none⟩) (b.m A) ck3) (.slice (some ⟨eb9, 0, none⟩) 1 1) (by simp [Act.eval, upd, E]) (by simp [Act.eval, upd, E]) (.slice (some ⟨gN, 0, none⟩) (b.m A + 1) cN) w' hr ?_
              exact hK _ _ ⟨eb9, gN, cN, by simp [Act.put, upd, E], by rw [show upd d 10 9 = true by simp [upd, E], show upd d 10 10 = true by simp [upd, E], show upd d 10 12 = false by simp [upd, E]]; exact h'⟩
            · rintro d a W hdi hdep hcl ⟨eb9, g9, c9, rfl, hw⟩ K hK
              have E := hcl.facts 11 hdi rfl hdep [0, 1, 2, 3, 4, 5, 6, 7, 8, 9, 10] [12] (by kernel_rfl) (by kernel_rfl)
              simp only [AllT, AllF] at E
              clear hdi hdep hcl
              go_simp
              refine hK _ _ ⟨eb9, g9, c9, by simp [upd, E], ?_⟩
              first | exact hw | simpa [upd, E] using hw
            · rintro d a W hdi hdep hcl ⟨eb9, g9, c9, rfl, hw⟩ K hK
              have E := hcl.facts 12 hdi rfl hdep [0, 1, 2, 3, 4, 5, 6, 7, 8, 9, 10, 11] [] (by kernel_rfl) (by kernel_rfl)
              simp only [AllT, AllF] at E
              clear hdi hdep hcl
              have h := hw.out
              rw [show d 9 = true by simp [E], show d 10 = true by simp [E], show d 12 = false by simp [E]] at h
              obtain ⟨o1, o2, o4, -, -⟩ := h.r rfl rfl
              have HH := Lib.hid h.store
              clear h
              go_simp
              refine hK _ _ ⟨eb9, g9, c9, by simp [upd, E], ?_⟩
              rw [show upd d 12 9 = true by simp [upd, E], show upd d 12 10 = true by simp [upd, E], show upd d 12 12 = true by simp [upd, E]]
              exact HH.out
          · rintro d a W hall ⟨eb9, g9, c9, rfl, hw⟩
            have E := AllT.all hall [0, 1, 2, 3, 4, 5, 6, 7, 8, 9, 10, 11, 12] (by kernel_rfl)
            simp only [AllT] at E
            simp only [E, cond_true] at hw ⊢
            clear E hall
            obtain ⟨hbz, hd⟩ := hw.out.y rfl
            have hnot : ∀ k, k < B3 → ¬(k = gk3 ∨ k = go3) := fun k hk e => by omega
            have hp2 : Pure w2 W := HPW.out.trans' hd (fun x hx e => by omega)
            have hP7 : Hid (Pure w W) := HPQ.out.trans hp2
            have HG7 := Lib.hid (HGQ.out.to hp2)
            have HSP7 := Lib.hid (HSPQ.out.to hp2)
            have bx : ∀ (g : Nat) (cs : Array Value), w6.heap[g]? = some (Obj.cells cs 26 (0, 0)) → W.heap[g]? = some (Obj.cells cs 26 (0, 0)) := fun g cs h => (hd.block g (Array.getElem?_eq_some_iff.1 h).1 (fun e => e.elim (HT26.out g cs h).1 (HT26.out g cs h).2)).trans h
            have HX7 : Hid (BoxB gx (b.say A kt l1 h1) (some ⟨go1, 0, none⟩) e1 W) := BoxB.of (T := 26) (bx gx _ HBX.out)
            have HY7 : Hid (BoxB gy (b.rate l2 h2) r2 e2 W) := BoxB.of (T := 26) (bx gy _ HBY.out)
            have HZ7 : Hid (BoxB gz (b.more A ts) (some ⟨go3, 0, none⟩) e3 W) := BoxB.of (T := 26) (bx gz _ HBZ.out)
            have hsz7 := hd.size
            have HRX7 : Hid (BookAt W.heap.size W (some ⟨go1, 0, none⟩) (b.say A kt l1 h1)) := (((HK1.out.mono (Nat.le_refl _) hB3).book).diff hd hB36 hnot).mono (by omega)
            have k2r : Cp B2 B3 w6 r2 e2 (b.rate l2 h2) := ⟨HK2.out.s, HK2.out.u⟩
            have HRY7 : Hid (BookAt W.heap.size W r2 (b.rate l2 h2)) := (k2r.book.diff hd hB36 hnot).mono (by omega)
            have HRZ7 := Lib.hid hbz
            obtain ⟨w7, hw7⟩ : ∃ V, W = V := ⟨_, rfl⟩
            rw [hw7] at hP7 HG7 HSP7 HX7 HY7 HZ7 HRX7 HRY7 HRZ7 ⊢
            clear hw hbz hd hnot hp2 bx k2r hw7 hsz7 W d HBX HBY HBZ HK1 HK2 HK3 HPW HGC3 HT26
            have hvx := say_valid hv A kt (lo := l1) (hi := h1) (by omega) (by omega) (by omega)
            have hvy := rate_valid hv n1 n2 n3
            have HSX : Hid (b.say A kt l1 h1).Small := HS.out
            have HSY : Hid (b.rate l2 h2).Small := HS.out
            obtain ⟨zx0, zx1, zx2, zx3, zxl⟩ := HX7.out
            obtain ⟨zy0, zy1, zy2, zy3, zyl⟩ := HY7.out
            obtain ⟨zz0, zz1, zz2, zz3, zzl⟩ := HZ7.out
            go_wp2_with fail
            refine (less_ok w7 b (b.say A kt l1 h1) (some ⟨go1, 0, none⟩) e1 N sq sn sc wsb HWS.out hv hvx HSX.out HLN.out HLN.out (fun z => can_say' b A kt l1 h1 (by rw [HLO.out]; omega) (by rw [HHI.out]; omega) N z) HRX7.out HG7.out HSP7.out).mono ?_
            rintro e w8 ⟨rfl, hp⟩
            have hP8 : Hid (Pure w w8) := hP7.out.trans hp
            have HX8 := Lib.hid (HX7.out.pure hp)
            have HY8 := Lib.hid (HY7.out.pure hp)
            have HZ8 := Lib.hid (HZ7.out.pure hp)
            have HG8 := Lib.hid (HG7.out.to hp)
            have HSP8 := Lib.hid (HSP7.out.to hp)
            have HRX8 := Lib.hid (HRX7.out.to hp)
            have HRY8 := Lib.hid (HRY7.out.to hp)
            have HRZ8 := Lib.hid (HRZ7.out.to hp)
            clear hp hP7 HX7 HY7 HZ7 zx0 zx1 zx2 zx3 zxl zy0 zy1 zy2 zy3 zyl zz0 zz1 zz2 zz3 zzl HG7 HSP7 HRX7 HRY7 HRZ7
            obtain ⟨zx0, zx1, zx2, zx3, zxl⟩ := HX8.out
            obtain ⟨zy0, zy1, zy2, zy3, zyl⟩ := HY8.out
            obtain ⟨zz0, zz1, zz2, zz3, zzl⟩ := HZ8.out
            go_wp2_with fail
            refine (less_ok w8 b (b.rate l2 h2) r2 e2 N sq sn sc wsb HWS.out hv hvy HSY.out HLN.out HLN.out (can_rate b l2 h2 n1 n3 N) HRY8.out HG8.out HSP8.out).mono ?_
            rintro e w9 ⟨rfl, hp⟩
            have hP9 : Hid (Pure w w9) := hP8.out.trans hp
            have HX9 := Lib.hid (HX8.out.pure hp)
            have HY9 := Lib.hid (HY8.out.pure hp)
            have HZ9 := Lib.hid (HZ8.out.pure hp)
            have HG9 := Lib.hid (HG8.out.to hp)
            have HSP9 := Lib.hid (HSP8.out.to hp)
            have HRX9 := Lib.hid (HRX8.out.to hp)
            have HRY9 := Lib.hid (HRY8.out.to hp)
            have HRZ9 := Lib.hid (HRZ8.out.to hp)
            clear hp hP8 HX8 HY8 HZ8 zx0 zx1 zx2 zx3 zxl zy0 zy1 zy2 zy3 zyl zz0 zz1 zz2 zz3 zzl HG8 HSP8 HRX8 HRY8 HRZ8
            obtain ⟨zx0, zx1, zx2, zx3, zxl⟩ := HX9.out
            obtain ⟨zy0, zy1, zy2, zy3, zyl⟩ := HY9.out
            obtain ⟨zz0, zz1, zz2, zz3, zzl⟩ := HZ9.out
            go_wp2_with fail
            refine (fine_any w9 (b.more A ts) (some ⟨go3, 0, none⟩) e3 HRZ9.out).mono ?_
            rintro e w10 ⟨rfl, hp⟩
            have hP10 : Hid (Pure w w10) := hP9.out.trans hp
            have HX10 := Lib.hid (HX9.out.pure hp)
            have HY10 := Lib.hid (HY9.out.pure hp)
            have HZ10 := Lib.hid (HZ9.out.pure hp)
            have HG10 := Lib.hid (HG9.out.to hp)
            have HSP10 := Lib.hid (HSP9.out.to hp)
            have HRX10 := Lib.hid (HRX9.out.to hp)
            have HRY10 := Lib.hid (HRY9.out.to hp)
            have HRZ10 := Lib.hid (HRZ9.out.to hp)
            clear hp hP9 HX9 HY9 HZ9 zx0 zx1 zx2 zx3 zxl zy0 zy1 zy2 zy3 zyl zz0 zz1 zz2 zz3 zzl HG9 HSP9 HRX9 HRY9 HRZ9
            obtain ⟨zx0, zx1, zx2, zx3, zxl⟩ := HX10.out
            obtain ⟨zy0, zy1, zy2, zy3, zyl⟩ := HY10.out
            obtain ⟨zz0, zz1, zz2, zz3, zzl⟩ := HZ10.out
            cases hfm : fineB (b.more A ts) with
            | false =>
              go_wp2_with fail
              refine (Works_any w10 HG10.out).mono ?_
              rintro e w11 ⟨rfl, hp⟩
              have hP11 : Hid (Pure w w11) := hP10.out.trans hp
              have HX11 := Lib.hid (HX10.out.pure hp)
              have HY11 := Lib.hid (HY10.out.pure hp)
              have HZ11 := Lib.hid (HZ10.out.pure hp)
              have HG11 := Lib.hid (HG10.out.to hp)
              have HSP11 := Lib.hid (HSP10.out.to hp)
              have HRX11 := Lib.hid (HRX10.out.to hp)
              have HRY11 := Lib.hid (HRY10.out.to hp)
              have HRZ11 := Lib.hid (HRZ10.out.to hp)
              clear hp hP10 HX10 HY10 HZ10 zx0 zx1 zx2 zx3 zxl zy0 zy1 zy2 zy3 zyl zz0 zz1 zz2 zz3 zzl HG10 HSP10 HRX10 HRY10 HRZ10
              obtain ⟨zx0, zx1, zx2, zx3, zxl⟩ := HX11.out
              obtain ⟨zy0, zy1, zy2, zy3, zyl⟩ := HY11.out
              obtain ⟨zz0, zz1, zz2, zz3, zzl⟩ := HZ11.out
              go_wp2_with fail
              exact bodyPost_ret (v := .bool true) (by simp [results, Tryd.results13, go_sem]) rfl ⟨rfl, hP11.out⟩
            | true =>
              obtain ⟨hsz, hckz⟩ := fineB_iff.1 hfm
              have hvz := checkB_valid hckz
              have HSZ := Lib.hid hsz
              clear hsz hckz hfm
              go_wp2_with fail
              refine (less_ok w10 b (b.more A ts) (some ⟨go3, 0, none⟩) e3 N sq sn sc wsb HWS.out hv hvz HSZ.out HLN.out HLN.out (can_more b A ts N) HRZ10.out HG10.out HSP10.out).mono ?_
              rintro e w11 ⟨rfl, hp⟩
              have hP11 : Hid (Pure w w11) := hP10.out.trans hp
              have HX11 := Lib.hid (HX10.out.pure hp)
              have HY11 := Lib.hid (HY10.out.pure hp)
              have HZ11 := Lib.hid (HZ10.out.pure hp)
              have HG11 := Lib.hid (HG10.out.to hp)
              have HSP11 := Lib.hid (HSP10.out.to hp)
              have HRX11 := Lib.hid (HRX10.out.to hp)
              have HRY11 := Lib.hid (HRY10.out.to hp)
              have HRZ11 := Lib.hid (HRZ10.out.to hp)
              clear hp hP10 HX10 HY10 HZ10 zx0 zx1 zx2 zx3 zxl zy0 zy1 zy2 zy3 zyl zz0 zz1 zz2 zz3 zzl HG10 HSP10 HRX10 HRY10 HRZ10
              obtain ⟨zx0, zx1, zx2, zx3, zxl⟩ := HX11.out
              obtain ⟨zy0, zy1, zy2, zy3, zyl⟩ := HY11.out
              obtain ⟨zz0, zz1, zz2, zz3, zzl⟩ := HZ11.out
              go_wp2_with fail
              refine (Works_any w11 HG11.out).mono ?_
              rintro e w12 ⟨rfl, hp⟩
              have hP12 : Hid (Pure w w12) := hP11.out.trans hp
              have HX12 := Lib.hid (HX11.out.pure hp)
              have HY12 := Lib.hid (HY11.out.pure hp)
              have HZ12 := Lib.hid (HZ11.out.pure hp)
              have HG12 := Lib.hid (HG11.out.to hp)
              have HSP12 := Lib.hid (HSP11.out.to hp)
              have HRX12 := Lib.hid (HRX11.out.to hp)
              have HRY12 := Lib.hid (HRY11.out.to hp)
              have HRZ12 := Lib.hid (HRZ11.out.to hp)
              clear hp hP11 HX11 HY11 HZ11 zx0 zx1 zx2 zx3 zxl zy0 zy1 zy2 zy3 zyl zz0 zz1 zz2 zz3 zzl HG11 HSP11 HRX11 HRY11 HRZ11
              obtain ⟨zx0, zx1, zx2, zx3, zxl⟩ := HX12.out
              obtain ⟨zy0, zy1, zy2, zy3, zyl⟩ := HY12.out
              obtain ⟨zz0, zz1, zz2, zz3, zzl⟩ := HZ12.out
              go_wp2_with fail
              exact bodyPost_ret (v := .bool true) (by simp [results, Tryd.results13, go_sem]) rfl ⟨rfl, hP12.out⟩
end Go.Proofs.YtmedkmbfggphdaaDoor
