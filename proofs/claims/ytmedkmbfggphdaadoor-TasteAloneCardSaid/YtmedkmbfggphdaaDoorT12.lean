/- TasteAlone: a lot that is tasted first in a sitting has a Span that is no wider than what was said then; one that is never tasted can have any sharpness. The walk of the law, for any book in memory. -/
import Derived.Test.YtmedkmbfggphdaaDoorU4
import Derived.Test.YtmedkmbfggphdaaDoorT11a
import Derived.Test.YtmedkmbfggphdaaDoorN6
set_option linter.unusedSimpArgs false
set_option linter.unusedVariables false
set_option linter.constructorNameAsVariable false
namespace Go.Proofs.YtmedkmbfggphdaaDoor
open Go.RowKit

/-- How many of the first tastes are of a lot. -/
def cntTo (b : BK) (i : Nat) : Nat → Nat
  | 0 => 0
  | q + 1 => cntTo b i q + (if (b.at' q).2.lot.toNat = i then 1 else 0)
theorem cntTo_le (b : BK) (i : Nat) : ∀ q, cntTo b i q ≤ q
  | 0 => Nat.le_refl _
  | q + 1 => by have := cntTo_le b i q; unfold cntTo; split <;> omega
theorem cntTo_zero {b : BK} {i : Nat} : ∀ {n : Nat}, cntTo b i n = 0 → ∀ q, q < n → (b.at' q).2.lot.toNat ≠ i
  | 0, _, q, h => by omega
  | n + 1, hz, q, h => by
    unfold cntTo at hz
    by_cases e : q = n
    · subst e; intro he; rw [if_pos he] at hz; omega
    · exact cntTo_zero (i := i) (n := n) (by omega) q (by omega)
theorem cnt_step {b : BK} {W : World} {M N q : Nat} (h : W.rowIs M 3 N fun i => .int .i64 (cntTo b i q)) {l : Nat} (hl : (b.at' q).2.lot.toNat = l) :
    (W.setCell ⟨M, l, none⟩ (.int .i64 (cntTo b l q + 1))).rowIs M 3 N fun i => .int .i64 (cntTo b i (q + 1)) := by
  refine (h.set l _).congr fun j _ => ?_
  show (if j = l then Value.int .i64 (cntTo b l q + 1) else Value.int .i64 (cntTo b j q)) = Value.int .i64 ((cntTo b j q + (if (b.at' q).2.lot.toNat = j then 1 else 0) : Nat) : Int)
  by_cases e : j = l
  · subst e; rw [if_pos rfl, if_pos hl]; rfl
  · rw [if_neg e, if_neg (by omega)]; rfl

set_option maxRecDepth 20000 in
set_option maxHeartbeats 16000000 in
theorem AloneLaw_any (w : World) (b : BK) (p : Option Addr) (cap : Nat) (hb : BookAt w.heap.size w p b) (hg : Gl w) :
    Calls Tryd.prog 14 #[bookV b p cap] w fun e w' => e = .returned (.bool true) ∧ Pure w w' := by
  have hmx : Tryd.prog.follows .mixedOrders = true := by kernel_rfl
  have HB := Lib.hid hb
  have HG := Lib.hid hg
  clear hb hg
  go_enter Tryd.func14, Tryd.ntmps14
  go_wp2_with fail
  obtain ⟨X, hX⟩ : ∃ X, w.alloc (.cells (bookC b p cap) 26) = X := ⟨_, rfl⟩
  have hP : Hid (Pure w X) := by rw [← hX]; exact (Diff.refl w).alloc _
  have hX1 : BoxB w.heap.size b p cap X := by rw [← hX]; exact BoxB.new w b p cap 26
  obtain ⟨g0, hg0⟩ : ∃ g, w.heap.size = g := ⟨_, rfl⟩
  rw [hX]
  rw [hg0] at hX1 ⊢
  clear hX hg0
  have H0 := Lib.hid hX1
  obtain ⟨c0, c1', c2', c3, cl⟩ := hX1
  refine (fine_any X b p cap (HB.out.to hP.out)).mono ?_
  rintro e w1 ⟨rfl, hp1⟩
  have hP1 : Hid (Pure w w1) := hP.out.trans hp1
  have HA1 := Lib.hid (H0.out.pure hp1)
  clear c0 c1' c2' c3 cl hp1 hP H0
  obtain ⟨za0, za1, za2, za3, zal⟩ := HA1.out
  cases hfine : fineB b with
  | false =>
    go_wp2_with fail
    refine (Works_any w1 (HG.out.to hP1.out)).mono ?_
    rintro e w2 ⟨rfl, hp2⟩
    have hP2 : Hid (Pure w w2) := hP1.out.trans hp2
    clear hp2
    go_wp2_with fail
    exact bodyPost_ret (v := .bool true) (by simp [results, Tryd.results14, go_sem]) rfl ⟨rfl, hP2.out⟩
  | true =>
    obtain ⟨hs, hck⟩ := fineB_iff.1 hfine
    have hv := checkB_valid hck
    have HCK := Lib.hid hck
    clear hck hfine
    have HB1 := Lib.hid (HB.out.to hP1.out)
    have HG1 := Lib.hid (HG.out.to hP1.out)
    clear HB HG
    have hl1 := hv.lots1
    have hl6 := hv.lots6
    obtain ⟨N, hN⟩ := Int.eq_ofNat_of_zero_le (show 0 ≤ b.lots by omega)
    have hN1 : 1 ≤ N := by omega
    have hN6 : N ≤ 6 := by omega
    have HLN := Lib.hid hN
    clear hN hl1 hl6
    cases hno : noneB b.es with
    | true =>
      have HNO := Lib.hid hno
      clear hno
      go_wp2_with fail
      refine (spans_any w1 b p cap hs HCK.out HB1.out HG1.out).mono ?_
      rintro e w2 ⟨hq, hp2⟩
      have he := hq.one HNO.out
      subst he
      have hP2 : Hid (Pure w w2) := hP1.out.trans hp2
      have HG2 := Lib.hid (HG1.out.to hp2)
      clear hq za0 za1 za2 za3 zal hp2
      go_wp2_with fail
      refine (Works_any w2 HG2.out).mono ?_
      rintro e w3 ⟨rfl, hp3⟩
      go_wp2_with fail
      exact bodyPost_ret (v := .bool true) (by simp [results, Tryd.results14, go_sem]) rfl ⟨rfl, hP2.out.trans hp3⟩
    | false =>
      have HNO := Lib.hid hno
      clear hno
      go_wp2_with fail
      refine (spans_any w1 b p cap hs HCK.out HB1.out HG1.out).mono ?_
      rintro e w2 ⟨hq, hp2⟩
      obtain ⟨sq, sc, rfl, hsp⟩ := hq.two HNO.out HLN.out
      have hP2 : Hid (Pure w w2) := hP1.out.trans hp2
      have HG2 := Lib.hid (HG1.out.to hp2)
      have HB2 := Lib.hid (HB1.out.to hp2)
      have HA2 := Lib.hid (HA1.out.pure hp2)
      have HSP := Lib.hid hsp
      clear hq za0 za1 za2 za3 zal hp2 hsp HB1 HG1 HA1 hP1
      obtain ⟨za0, za1, za2, za3, zal⟩ := HA2.out
      obtain ⟨sg, hsq, hsg, -, -⟩ := HSP.out 0 (by omega)
      subst hsq
      have HSG := Lib.hid hsg
      clear hsg
      have hmk := run_make_row' (P := Tryd.prog) 44 3 (.int .i64 0) 8 Tryd.underlying44 info3 rfl .i64 .i64 N (by omega) (by omega)
      have hcell := za2
      rw [HLN.out] at za2
      go_wp2_with fail
      obtain ⟨w3, hw3⟩ : ∃ W, w2.alloc (.cells (madeCells #[.int .i64 0] N) 3) = W := ⟨_, rfl⟩
      have HP3 : Hid (Pure w2 w3) := by show Pure w2 w3; rw [← hw3]; exact (Diff.refl _).alloc _
      have HR3 : Hid (w3.rowIs w2.heap.size 3 N fun i => .int .i64 (cntTo b i 0)) := by show World.rowIs w3 _ _ _ _; rw [← hw3]; exact World.rowIs_made _ _ _ _
      obtain ⟨M, hM⟩ : ∃ g, w2.heap.size = g := ⟨_, rfl⟩
      have HM := Lib.hid hM
      rw [hw3]
      rw [hM] at HR3 ⊢
      clear hw3 hM hmk za0 za1 za2 za3 zal hcell
      have HS := Lib.hid hs
      obtain ⟨a0, a1, a2, a3, al⟩ := HA2.out.pure HP3.out
      have hn4 := hv.n4
      have hmgo : Hid (M < w2.heap.size → False) := fun h => by have := HM.out; omega
      go_wp2_with fail
      go_loopw [7] (fun i wr => ∃ k : Nat, k ≤ b.n ∧ i = .int .i64 k ∧ Hid (Pure w2 wr) ∧ Hid (wr.rowIs M 3 N fun i => .int .i64 (cntTo b i (b.upto k)))) (fun i _ => b.n - (intOf i).toNat)
      case atStart => exact ⟨0, Nat.zero_le _, rfl, HP3.out, HR3.out⟩
      case round =>
        obtain ⟨k, hk, rfl, HPr, HRr⟩ := hrel
        clear a0 a1 a2 a3 al
        have hk0 : (0 : Int) ≤ k := by omega
        obtain ⟨a0, a1, a2, a3, al⟩ := HA2.out.pure HPr.out
        by_cases hkn : k < b.n
        · obtain ⟨tb, to', q, c, hq0, htb, hc, hsit⟩ := HB2.out k hkn
          subst hq0
          have HC := Lib.hid hc
          have HSI := Lib.hid hsit
          have hki : (k : Int) < b.n := by omega
          have hm16 := HS.out.2 k hkn
          clear hc hsit
          have yc := ((pcell HPr.out).1 _ _ htb).trans HC.out
          go_wp2_with fail
          clear a0 a1 a2 a3 al yc
          go_loopw [8] (fun j wj => ∃ g : Nat, g ≤ b.m k ∧ j = .int .i64 g ∧ Hid (Pure w2 wj) ∧ Hid (wj.rowIs M 3 N fun i => .int .i64 (cntTo b i (b.upto k + g)))) (fun j _ => b.m k - (intOf j).toNat)
          case atStart => exact ⟨0, Nat.zero_le _, rfl, HPr.out, HRr.out⟩
          case round =>
            obtain ⟨g, hg, rfl, HPj, HRj⟩ := hrel
            have hg0 : (0 : Int) ≤ g := by omega
            obtain ⟨a0, a1, a2, a3, al⟩ := HA2.out.pure HPj.out
            have yc := ((pcell HPj.out).1 _ _ htb).trans HC.out
            by_cases hgm : g < b.m k
            · obtain ⟨cb, co, hq0, hcb, s1, s2, s3⟩ := HSI.out g hgm
              subst hq0
              have hgi : (g : Int) < b.m k := by omega
              have s1' := ((pcell HPj.out).1 _ _ hcb).trans s1
              have s2' := ((pcell HPj.out).1 _ _ hcb).trans s2
              have s3' := ((pcell HPj.out).1 _ _ hcb).trans s3
              have HAT := Lib.hid (b.at_eq k g hkn hgm)
              have HQL := Lib.hid (b.upto_lt k g hkn hgm)
              have hl0 := hv.lot0 k g hkn hgm
              have hl1 := hv.lot1 k g hkn hgm
              obtain ⟨l, hl⟩ := Int.eq_ofNat_of_zero_le hl0
              have hlN : l < N := by have := HLN.out; omega
              have HL := Lib.hid hl
              rw [hl] at s1'
              obtain ⟨lo, hlo⟩ : ∃ x, (b.t k g).lo = x := ⟨_, rfl⟩
              obtain ⟨hi, hhi⟩ : ∃ x, (b.t k g).hi = x := ⟨_, rfl⟩
              have HLO := Lib.hid hlo
              have HHI := Lib.hid hhi
              rw [hlo] at s2'
              rw [hhi] at s3'
              have hlN' : (l : Int) < N := by omega
              have hl0' : (0 : Int) ≤ l := by omega
              have hcnt := cntTo_le b l (b.upto k + g)
              have htot := hv.tot
              have hq12 := b.upto_lt k g hkn hgm
              have hc12 : cntTo b l (b.upto k + g) ≤ 12 := by omega
              have zc := HRj.out.cell hlN
              have fc : ∀ o, wr.frozen? ⟨M, o, none⟩ = false := fun o => HRj.out.frozen o
              have hML := HRj.out.lt
              clear s1 s2 s3 hl hlo hhi hl0 hl1 hcnt htot hq12
              go_wp2_with fail
              have hlq : (b.at' (b.upto k + g)).2.lot.toNat = l := by rw [HAT.out]; show (b.t k g).lot.toNat = l; rw [HL.out]; rfl
              obtain ⟨V, hV⟩ : ∃ V, (wr.setCell ⟨M, l, none⟩ (.int .i64 (cntTo b l (b.upto k + g) + 1))).alloc (.cells #[.int .i64 (l : Int), .int .i64 lo, .int .i64 hi] 70) = V := ⟨_, rfl⟩
              have HPV : Hid (Pure w2 V) := by show Pure w2 V; rw [← hV]; exact (HPj.out.setCell (fun h => hmgo.out h) _).alloc _
              have HRV : Hid (V.rowIs M 3 N fun i => .int .i64 (cntTo b i (b.upto k + (g + 1)))) := by show World.rowIs V _ _ _ _; rw [← hV]; exact (cnt_step HRj.out hlq).alloc _
              have hb70 : V.heap[wr.heap.size]? = some (.cells #[.int .i64 (l : Int), .int .i64 lo, .int .i64 hi] 70 (0, 0)) := by
                rw [← hV]
                have := World.alloc_heap_new (wr.setCell ⟨M, l, none⟩ (.int .i64 (cntTo b l (b.upto k + g) + 1))) (.cells #[.int .i64 (l : Int), .int .i64 lo, .int .i64 hi] 70)
                rwa [show (wr.setCell ⟨M, l, none⟩ (.int .i64 (cntTo b l (b.upto k + g) + 1))).heap.size = wr.heap.size by simp] at this
              have e0 : V.cell? ⟨wr.heap.size, 0, none⟩ = some (.int .i64 (l : Int)) := by rw [cell_of_row V _ _ _ _ _ hb70]; rfl
              have e1 : V.cell? ⟨wr.heap.size, 1, none⟩ = some (.int .i64 lo) := by rw [cell_of_row V _ _ _ _ _ hb70]; rfl
              have e2 : V.cell? ⟨wr.heap.size, 2, none⟩ = some (.int .i64 hi) := by rw [cell_of_row V _ _ _ _ _ hb70]; rfl
              obtain ⟨gl, hgl⟩ : ∃ x, wr.heap.size = x := ⟨_, rfl⟩
              rw [hV]
              rw [hgl] at e0 e1 e2 ⊢
              obtain ⟨sg', hsq, -, y0, y1⟩ := HSP.out.to HPV.out l hlN
              cases hsq
              obtain ⟨ev, hev⟩ : ∃ x, endV b false (1 + l) = x := ⟨_, rfl⟩
              obtain ⟨eh, heh⟩ : ∃ x, endV b true (1 + l) = x := ⟨_, rfl⟩
              rw [hev] at y0
              rw [heh] at y1
              have hfst : g = 0 → ¬ ev < lo ∧ ¬ hi < eh := fun h0 => by
                have h1 := alone_first b hv HNO.out N HLN.out (b.upto k + g) HQL.out (by rw [HAT.out]; show (g == 0) = true; rw [h0]; rfl)
                rw [hlq, hev, heh, HAT.out] at h1
                have h2 : (b.t k g).lo ≤ ev ∧ eh ≤ (b.t k g).hi := h1
                rw [HLO.out, HHI.out] at h2
                omega
              clear hV hgl hb70 hev heh hlq zc fc hML s1' s2' s3' yc a0 a1 a2 a3 al hc12
              have HFS := Lib.hid hfst
              clear hfst
              by_cases hg00 : g = 0
              · have hgi0 : ((g : Int) == 0) = true := by simp [hg00]
                have hd1 := (HFS.out hg00).1
                have hd2 := (HFS.out hg00).2
                clear hg00
                go_region
                go_wp2_with fail
                obtain ⟨a0, a1, a2, a3, al⟩ := HA2.out.pure HPV.out
                exact ⟨⟨g + 1, by omega, by push_cast; rfl, HPV.out.trans (Diff.refl _).drew, HRV.out.drew⟩, by simp only [intOf]; omega⟩
              · have hgi0 : ((g : Int) == 0) = false := by simp [hg00]
                clear hg00
                go_region
                go_wp2_with fail
                exact ⟨⟨g + 1, by omega, by push_cast; rfl, HPV.out.trans (Diff.refl _).drew, HRV.out.drew⟩, by simp only [intOf]; omega⟩
            · obtain rfl : g = b.m k := by omega
              go_wp2_with fail
              exact ⟨⟨k + 1, by omega, by push_cast; rfl, HPj.out, HRj.out⟩, by simp only [intOf]; omega⟩
        · obtain rfl : k = b.n := by omega
          go_wp2_with fail
          clear a0 a1 a2 a3 al
          go_loopw [10] (fun i wj => ∃ k : Nat, k ≤ N ∧ i = .int .i64 k ∧ Hid (Pure w2 wj) ∧ Hid (wj.rowIs M 3 N fun i => .int .i64 (cntTo b i b.total))) (fun i _ => N - (intOf i).toNat)
          case atStart => exact ⟨0, Nat.zero_le _, rfl, HPr.out, HRr.out⟩
          case round =>
            obtain ⟨k, hk, rfl, HPj, HRj⟩ := hrel
            have hk0 : (0 : Int) ≤ k := by omega
            obtain ⟨a0, a1, a2, a3, al⟩ := HA2.out.pure HPj.out
            by_cases hkN : k < N
            · have hki : (k : Int) < N := by omega
              have hki2 : (k : Int) < b.lots := by rw [HLN.out]; omega
              go_wp2_with fail
              clear a0 a1 a2 a3 al hki2
              by_cases hcz : cntTo b k b.total = 0
              · have HZC : Hid (∀ W, Pure wr W → W.cell? ⟨M, k, none⟩ = some (.int .i64 0)) := fun W hp => by rw [(rowPure HRj.out hp).cell hkN, hcz]; rfl
                have HY : Hid (∀ W, Pure wr W → W.cell? ⟨sg, k * 2, none⟩ = some (.int .i64 0) ∧ W.cell? ⟨sg, k * 2 + 1, none⟩ = some (.int .i64 1000)) := fun W hp => by
                  obtain ⟨sg', hsq, -, y0, y1⟩ := HSP.out.to (HPj.out.trans hp) k hkN
                  cases hsq
                  obtain ⟨n0, n1⟩ := alone_never b hv HNO.out N HLN.out k hkN (cntTo_zero hcz)
                  rw [n0] at y0
                  rw [n1] at y1
                  exact ⟨y0, y1⟩
                clear hcz
                refine reg_invW (fun d a W => a = { tmps := #[bookV b p cap, Value.pointer (some { block := g0, off := 0 }), u2, Value.slice (some { block := sg, off := 0 }) N sc, Value.bool true, Value.bool true, Value.slice (some { block := M, off := 0 }) N N, Value.int IntKind.i64 (b.n : Int), u8, u9, Value.int IntKind.i64 (k : Int), Value.agg #[Value.int IntKind.i64 b.lo, Value.int IntKind.i64 b.hi, Value.int IntKind.i64 b.lots, Value.slice p b.n cap], Value.bool true, Value.bool false, undef, Value.tuple #[Value.slice (some { block := sg, off := 0 }) N sc, Value.bool true, Value.bool true], Value.agg #[Value.int IntKind.i64 b.lo, Value.int IntKind.i64 b.hi, Value.int IntKind.i64 b.lots, Value.slice p b.n cap], Value.tuple #[Value.slice (some { block := sg, off := 0 }) N sc, Value.bool true, Value.bool true], Value.slice (some { block := sg, off := 0 }) N sc, Value.bool true, Value.bool true, Value.bool true, Value.bool false, Value.bool false, Value.bool true, Value.bool false, Value.bool false, undef, undef, undef, undef, Value.pointer (some { block := g0, off := 2 }), Value.int IntKind.i64 (N : Int), Value.slice (some { block := M, off := 0 }) N N, Value.int IntKind.i64 (b.n : Int), Value.pointer (some { block := g0, off := 3 }), Value.slice p b.n cap, Value.int IntKind.i64 (b.n : Int), Value.bool false, u39, u40, u41, u42, u43, u44, u45, u46, u47, u48, u49, u50, u51, u52, u53, u54, u55, u56, u57, u58, u59, u60, u61, u62, u63, u64, u65, u66, u67, u68, u69, u70, u71, u72, u73, u74, u75, u76, u77, u78, u79, u80, u81, u82, u83, u84, u85, u86, u87, u88, u89, u90, u91, Value.int IntKind.i64 (k : Int), Value.pointer (some { block := g0, off := 2 }), Value.int IntKind.i64 b.lots, Value.bool true, u96, u97, (bif d 0 then Value.slice (some { block := M, off := 0 }) N N else u98), (bif d 1 then Value.int IntKind.i64 ((k : Int)) else u99), (bif d 2 then Value.pointer (some { block := M, off := k }) else u100), (bif d 3 then Value.int IntKind.i64 (0) else u101), (bif d 4 then Value.bool true else u102), (bif d 5 then Value.bool true else u103), (bif d 6 then Value.slice (some { block := sg, off := 0 }) N sc else u104), (bif d 7 then Value.int IntKind.i64 ((k : Int)) else u105), (bif d 8 then Value.pointer (some { block := sg, off := k * 2 }) else u106), (bif d 9 then Value.agg #[Value.int IntKind.i64 0, Value.int IntKind.i64 1000] else u107), (bif d 10 then Value.agg #[Value.int IntKind.i64 0, Value.int IntKind.i64 1000] else u108), (bif d 11 then Value.bool false else u109), (bif d 12 then Value.bool false else u110), undef], defers := [] } ∧ Hid (Pure wr W)) hmx (by kernel_rfl) ?_ ?_ ?_
                · exact ⟨rfl, (Diff.refl wr).drew⟩
                · refine ⟨?_, ?_, ?_, ?_, ?_, ?_, ?_, ?_, ?_, ?_, ?_, ?_, ?_, trivial⟩
                  · rintro d a W hdi hdep hcl ⟨rfl, hw⟩ K hK
                    have E := hcl.facts 0 hdi rfl hdep [] [2, 3, 4, 5, 6, 7, 8, 9, 10, 11, 12] (by kernel_rfl) (by kernel_rfl)
                    simp only [AllT, AllF] at E
                    clear hdi hdep hcl
                    go_simp
                    exact hK _ _ ⟨by simp [upd, E], hw⟩
                  · rintro d a W hdi hdep hcl ⟨rfl, hw⟩ K hK
                    have E := hcl.facts 1 hdi rfl hdep [] [2, 3, 4, 5, 6, 7, 8, 9, 10, 11, 12] (by kernel_rfl) (by kernel_rfl)
                    simp only [AllT, AllF] at E
                    clear hdi hdep hcl
                    go_simp
                    exact hK _ _ ⟨by simp [upd, E], hw⟩
                  · rintro d a W hdi hdep hcl ⟨rfl, hw⟩ K hK
                    have E := hcl.facts 2 hdi rfl hdep [0, 1] [3, 4, 5, 6, 7, 8, 9, 10, 11, 12] (by kernel_rfl) (by kernel_rfl)
                    simp only [AllT, AllF] at E
                    clear hdi hdep hcl
                    go_simp
                    exact hK _ _ ⟨by simp [upd, E], hw⟩
                  · rintro d a W hdi hdep hcl ⟨rfl, hw⟩ K hK
                    have E := hcl.facts 3 hdi rfl hdep [0, 1, 2] [4, 5, 6, 7, 8, 9, 10, 11, 12] (by kernel_rfl) (by kernel_rfl)
                    simp only [AllT, AllF] at E
                    clear hdi hdep hcl
                    have zc := HZC.out _ hw.out
                    go_simp
                    exact hK _ _ ⟨by simp [upd, E], hw⟩
                  · rintro d a W hdi hdep hcl ⟨rfl, hw⟩ K hK
                    have E := hcl.facts 4 hdi rfl hdep [0, 1, 2, 3] [5, 6, 7, 8, 9, 10, 11, 12] (by kernel_rfl) (by kernel_rfl)
                    simp only [AllT, AllF] at E
                    clear hdi hdep hcl
                    go_simp
                    exact hK _ _ ⟨by simp [upd, E], hw⟩
                  · rintro d a W hdi hdep hcl ⟨rfl, hw⟩ K hK
                    have E := hcl.facts 5 hdi rfl hdep [0, 1, 2, 3, 4] [6, 7, 8, 9, 10, 11, 12] (by kernel_rfl) (by kernel_rfl)
                    simp only [AllT, AllF] at E
                    clear hdi hdep hcl
                    go_simp
                    exact hK _ _ ⟨by simp [upd, E], hw⟩
                  · rintro d a W hdi hdep hcl ⟨rfl, hw⟩ K hK
                    have E := hcl.facts 6 hdi rfl hdep [0, 1, 2, 3, 4, 5] [8, 9, 11, 12] (by kernel_rfl) (by kernel_rfl)
                    simp only [AllT, AllF] at E
                    clear hdi hdep hcl
                    go_simp
                    exact hK _ _ ⟨by simp [upd, E], hw⟩
                  · rintro d a W hdi hdep hcl ⟨rfl, hw⟩ K hK
                    have E := hcl.facts 7 hdi rfl hdep [0, 1, 2, 3, 4, 5] [8, 9, 11, 12] (by kernel_rfl) (by kernel_rfl)
                    simp only [AllT, AllF] at E
                    clear hdi hdep hcl
                    go_simp
                    exact hK _ _ ⟨by simp [upd, E], hw⟩
                  · rintro d a W hdi hdep hcl ⟨rfl, hw⟩ K hK
                    have E := hcl.facts 8 hdi rfl hdep [0, 1, 2, 3, 4, 5, 6, 7] [9, 11, 12] (by kernel_rfl) (by kernel_rfl)
                    simp only [AllT, AllF] at E
                    clear hdi hdep hcl
                    go_simp
                    exact hK _ _ ⟨by simp [upd, E], hw⟩
                  · rintro d a W hdi hdep hcl ⟨rfl, hw⟩ K hK
                    have E := hcl.facts 9 hdi rfl hdep [0, 1, 2, 3, 4, 5, 6, 7, 8] [11, 12] (by kernel_rfl) (by kernel_rfl)
                    simp only [AllT, AllF] at E
                    clear hdi hdep hcl
                    have y0 := (HY.out _ hw.out).1
                    have y1 := (HY.out _ hw.out).2
                    go_simp
                    exact hK _ _ ⟨by simp [upd, E], hw⟩
                  · rintro d a W hdi hdep hcl ⟨rfl, hw⟩ K hK
                    have E := hcl.facts 10 hdi rfl hdep [0, 1, 2, 3, 4, 5] [11, 12] (by kernel_rfl) (by kernel_rfl)
                    simp only [AllT, AllF] at E
                    clear hdi hdep hcl
                    go_simp
                    refine (to_any _ _ _).mono ?_
                    rintro e w99 ⟨rfl, hp6⟩
                    exact hK _ _ ⟨by simp [upd, E], hw.out.trans hp6⟩
                  · rintro d a W hdi hdep hcl ⟨rfl, hw⟩ K hK
                    have E := hcl.facts 11 hdi rfl hdep [0, 1, 2, 3, 4, 5, 6, 7, 8, 9, 10] [12] (by kernel_rfl) (by kernel_rfl)
                    simp only [AllT, AllF] at E
                    clear hdi hdep hcl
                    go_simp
                    exact hK _ _ ⟨by simp [upd, E], hw⟩
                  · rintro d a W hdi hdep hcl ⟨rfl, hw⟩ K hK
                    have E := hcl.facts 12 hdi rfl hdep [0, 1, 2, 3, 4, 5, 6, 7, 8, 9, 10, 11] [] (by kernel_rfl) (by kernel_rfl)
                    simp only [AllT, AllF] at E
                    clear hdi hdep hcl
                    go_simp
                    exact hK _ _ ⟨by simp [upd, E], hw⟩
                · rintro d a W hall ⟨rfl, hw⟩
                  have E := AllT.all hall [0, 1, 2, 3, 4, 5, 6, 7, 8, 9, 10, 11, 12] (by kernel_rfl)
                  simp only [AllT] at E
                  simp only [E, cond_true] at hw ⊢
                  clear E hall
                  have HF := Lib.hid (HPj.out.trans hw.out)
                  have HRF := Lib.hid (rowPure HRj.out hw.out)
                  clear hw
                  go_wp2_with fail
                  exact ⟨⟨k + 1, by omega, by push_cast; rfl, HF.out, HRF.out⟩, by simp only [intOf]; omega⟩
              · obtain ⟨cc, hcc⟩ : ∃ c, cntTo b k b.total = c := ⟨_, rfl⟩
                have HZC : Hid (∀ W, Pure wr W → W.cell? ⟨M, k, none⟩ = some (.int .i64 (cc : Int))) := fun W hp => by rw [(rowPure HRj.out hp).cell hkN, hcc]
                have hcz2 : ((cc : Int) == 0) = false := by rw [← hcc]; simpa using hcz
                clear hcz hcc
                refine reg_invW (fun d a W => a = { tmps := #[bookV b p cap, Value.pointer (some { block := g0, off := 0 }), u2, Value.slice (some { block := sg, off := 0 }) N sc, Value.bool true, Value.bool true, Value.slice (some { block := M, off := 0 }) N N, Value.int IntKind.i64 (b.n : Int), u8, u9, Value.int IntKind.i64 (k : Int), Value.agg #[Value.int IntKind.i64 b.lo, Value.int IntKind.i64 b.hi, Value.int IntKind.i64 b.lots, Value.slice p b.n cap], Value.bool true, Value.bool false, undef, Value.tuple #[Value.slice (some { block := sg, off := 0 }) N sc, Value.bool true, Value.bool true], Value.agg #[Value.int IntKind.i64 b.lo, Value.int IntKind.i64 b.hi, Value.int IntKind.i64 b.lots, Value.slice p b.n cap], Value.tuple #[Value.slice (some { block := sg, off := 0 }) N sc, Value.bool true, Value.bool true], Value.slice (some { block := sg, off := 0 }) N sc, Value.bool true, Value.bool true, Value.bool true, Value.bool false, Value.bool false, Value.bool true, Value.bool false, Value.bool false, undef, undef, undef, undef, Value.pointer (some { block := g0, off := 2 }), Value.int IntKind.i64 (N : Int), Value.slice (some { block := M, off := 0 }) N N, Value.int IntKind.i64 (b.n : Int), Value.pointer (some { block := g0, off := 3 }), Value.slice p b.n cap, Value.int IntKind.i64 (b.n : Int), Value.bool false, u39, u40, u41, u42, u43, u44, u45, u46, u47, u48, u49, u50, u51, u52, u53, u54, u55, u56, u57, u58, u59, u60, u61, u62, u63, u64, u65, u66, u67, u68, u69, u70, u71, u72, u73, u74, u75, u76, u77, u78, u79, u80, u81, u82, u83, u84, u85, u86, u87, u88, u89, u90, u91, Value.int IntKind.i64 (k : Int), Value.pointer (some { block := g0, off := 2 }), Value.int IntKind.i64 b.lots, Value.bool true, u96, u97, (bif d 0 then Value.slice (some { block := M, off := 0 }) N N else u98), (bif d 1 then Value.int IntKind.i64 ((k : Int)) else u99), (bif d 2 then Value.pointer (some { block := M, off := k }) else u100), (bif d 3 then Value.int IntKind.i64 ((cc : Int)) else u101), (bif d 4 then Value.bool false else u102), (bif d 5 then Value.bool false else u103), (bif d 6 then undef else u104), (bif d 7 then undef else u105), (bif d 8 then undef else u106), (bif d 9 then undef else u107), (bif d 10 then undef else u108), (bif d 11 then undef else u109), (bif d 12 then Value.bool false else u110), undef], defers := [] } ∧ Hid (Pure wr W)) hmx (by kernel_rfl) ?_ ?_ ?_
                · exact ⟨rfl, (Diff.refl wr).drew⟩
                · refine ⟨?_, ?_, ?_, ?_, ?_, ?_, ?_, ?_, ?_, ?_, ?_, ?_, ?_, trivial⟩
                  · rintro d a W hdi hdep hcl ⟨rfl, hw⟩ K hK
                    have E := hcl.facts 0 hdi rfl hdep [] [2, 3, 4, 5, 6, 7, 8, 9, 10, 11, 12] (by kernel_rfl) (by kernel_rfl)
                    simp only [AllT, AllF] at E
                    clear hdi hdep hcl
                    go_simp
                    exact hK _ _ ⟨by simp [upd, E], hw⟩
                  · rintro d a W hdi hdep hcl ⟨rfl, hw⟩ K hK
                    have E := hcl.facts 1 hdi rfl hdep [] [2, 3, 4, 5, 6, 7, 8, 9, 10, 11, 12] (by kernel_rfl) (by kernel_rfl)
                    simp only [AllT, AllF] at E
                    clear hdi hdep hcl
                    go_simp
                    exact hK _ _ ⟨by simp [upd, E], hw⟩
                  · rintro d a W hdi hdep hcl ⟨rfl, hw⟩ K hK
                    have E := hcl.facts 2 hdi rfl hdep [0, 1] [3, 4, 5, 6, 7, 8, 9, 10, 11, 12] (by kernel_rfl) (by kernel_rfl)
                    simp only [AllT, AllF] at E
                    clear hdi hdep hcl
                    go_simp
                    exact hK _ _ ⟨by simp [upd, E], hw⟩
                  · rintro d a W hdi hdep hcl ⟨rfl, hw⟩ K hK
                    have E := hcl.facts 3 hdi rfl hdep [0, 1, 2] [4, 5, 6, 7, 8, 9, 10, 11, 12] (by kernel_rfl) (by kernel_rfl)
                    simp only [AllT, AllF] at E
                    clear hdi hdep hcl
                    have zc := HZC.out _ hw.out
                    go_simp
                    exact hK _ _ ⟨by simp [upd, E], hw⟩
                  · rintro d a W hdi hdep hcl ⟨rfl, hw⟩ K hK
                    have E := hcl.facts 4 hdi rfl hdep [0, 1, 2, 3] [5, 6, 7, 8, 9, 10, 11, 12] (by kernel_rfl) (by kernel_rfl)
                    simp only [AllT, AllF] at E
                    clear hdi hdep hcl
                    go_simp
                    exact hK _ _ ⟨by simp [upd, E], hw⟩
                  · rintro d a W hdi hdep hcl ⟨rfl, hw⟩ K hK
                    have E := hcl.facts 5 hdi rfl hdep [0, 1, 2, 3, 4] [6, 7, 8, 9, 10, 11, 12] (by kernel_rfl) (by kernel_rfl)
                    simp only [AllT, AllF] at E
                    clear hdi hdep hcl
                    go_simp
                    exact hK _ _ ⟨by simp [upd, E], hw⟩
                  · rintro d a W hdi hdep hcl ⟨rfl, hw⟩ K hK
                    have E := hcl.facts 6 hdi rfl hdep [0, 1, 2, 3, 4, 5] [8, 9, 11, 12] (by kernel_rfl) (by kernel_rfl)
                    simp only [AllT, AllF] at E
                    clear hdi hdep hcl
                    go_simp
                    exact hK _ _ ⟨by simp [upd, E], hw⟩
                  · rintro d a W hdi hdep hcl ⟨rfl, hw⟩ K hK
                    have E := hcl.facts 7 hdi rfl hdep [0, 1, 2, 3, 4, 5] [8, 9, 11, 12] (by kernel_rfl) (by kernel_rfl)
                    simp only [AllT, AllF] at E
                    clear hdi hdep hcl
                    go_simp
                    exact hK _ _ ⟨by simp [upd, E], hw⟩
                  · rintro d a W hdi hdep hcl ⟨rfl, hw⟩ K hK
                    have E := hcl.facts 8 hdi rfl hdep [0, 1, 2, 3, 4, 5, 6, 7] [9, 11, 12] (by kernel_rfl) (by kernel_rfl)
                    simp only [AllT, AllF] at E
                    clear hdi hdep hcl
                    go_simp
                    exact hK _ _ ⟨by simp [upd, E], hw⟩
                  · rintro d a W hdi hdep hcl ⟨rfl, hw⟩ K hK
                    have E := hcl.facts 9 hdi rfl hdep [0, 1, 2, 3, 4, 5, 6, 7, 8] [11, 12] (by kernel_rfl) (by kernel_rfl)
                    simp only [AllT, AllF] at E
                    clear hdi hdep hcl
                    go_simp
                    exact hK _ _ ⟨by simp [upd, E], hw⟩
                  · rintro d a W hdi hdep hcl ⟨rfl, hw⟩ K hK
                    have E := hcl.facts 10 hdi rfl hdep [0, 1, 2, 3, 4, 5] [11, 12] (by kernel_rfl) (by kernel_rfl)
                    simp only [AllT, AllF] at E
                    clear hdi hdep hcl
                    go_simp
                    exact hK _ _ ⟨by simp [upd, E], hw⟩
                  · rintro d a W hdi hdep hcl ⟨rfl, hw⟩ K hK
                    have E := hcl.facts 11 hdi rfl hdep [0, 1, 2, 3, 4, 5, 6, 7, 8, 9, 10] [12] (by kernel_rfl) (by kernel_rfl)
                    simp only [AllT, AllF] at E
                    clear hdi hdep hcl
                    go_simp
                    exact hK _ _ ⟨by simp [upd, E], hw⟩
                  · rintro d a W hdi hdep hcl ⟨rfl, hw⟩ K hK
                    have E := hcl.facts 12 hdi rfl hdep [0, 1, 2, 3, 4, 5, 6, 7, 8, 9, 10, 11] [] (by kernel_rfl) (by kernel_rfl)
                    simp only [AllT, AllF] at E
                    clear hdi hdep hcl
                    go_simp
                    exact hK _ _ ⟨by simp [upd, E], hw⟩
                · rintro d a W hall ⟨rfl, hw⟩
                  have E := AllT.all hall [0, 1, 2, 3, 4, 5, 6, 7, 8, 9, 10, 11, 12] (by kernel_rfl)
                  simp only [AllT] at E
                  simp only [E, cond_true] at hw ⊢
                  clear E hall
                  have HF := Lib.hid (HPj.out.trans hw.out)
                  have HRF := Lib.hid (rowPure HRj.out hw.out)
                  clear hw
                  go_wp2_with fail
                  exact ⟨⟨k + 1, by omega, by push_cast; rfl, HF.out, HRF.out⟩, by simp only [intOf]; omega⟩
            · have hki2 : ¬ (k : Int) < b.lots := by rw [HLN.out]; omega
              have hfin : Hid (Pure w w2) := hP2
              go_wp2_with fail
              refine (Works_any wr (HG2.out.to HPj.out)).mono ?_
              rintro e w9 ⟨rfl, hp9⟩
              go_wp2_with fail
              exact bodyPost_ret (v := .bool true) (by simp [results, Tryd.results14, go_sem]) rfl ⟨rfl, hP2.out.trans (HPj.out.trans hp9)⟩
end Go.Proofs.YtmedkmbfggphdaaDoor
