/- The law's helpers: spans. No condition. -/
import Derived.Test.YtmedkmbfggphdaaDoorN6
import Derived.Test.YtmedkmbfggphdaaDoorT6
set_option linter.unusedSimpArgs false
set_option linter.unusedVariables false
set_option linter.constructorNameAsVariable false
namespace Go.Proofs.YtmedkmbfggphdaaDoor
open Go.RowKit

theorem info23' : ∃ i, Tryd.prog.info? 23 = some i ∧ i.zero = some (.agg #[.int .i64 0, .int .i64 0]) ∧ i.size = 2 ∧ i.bytes = 16 := by
  have h : (Tryd.prog.info? 23).map (fun i => (i.zero, i.size, i.bytes)) = some (some (.agg #[.int .i64 0, .int .i64 0]), 2, 16) := by kernel_rfl
  obtain ⟨i, hi, he⟩ := Option.map_eq_some_iff.1 h
  simp only [Prod.mk.injEq] at he
  exact ⟨i, hi, he.1, he.2.1, he.2.2⟩
/-- One range more behind an own row of ranges. -/
theorem push_two {W : World} {B n : Nat} {u : Value} {xs : List Value} (h : W.ownsRow B 23 2 u n xs) (hn : n ≤ 1000) (hB : B ≤ W.heap.size) (lo hi : Int) :
    ∃ v' w', (Builtin.append_ #[61, 61] 61 #[u, .slice (some ⟨W.heap.size, 0, none⟩) 1 1]).run Tryd.prog (W.alloc (.cells #[.int .i64 lo, .int .i64 hi] 23)) = .ok v' w' ∧ w'.ownsRow B 23 2 v' (n + 1) (xs ++ [.int .i64 lo, .int .i64 hi]) ∧
      Diff (fun k => some k = u.ownBlock) W w' ∧ ∃ g c, v' = .slice (some ⟨g, 0, none⟩) (n + 1) c := by
  obtain ⟨i7, hi7, hz7, hsz7, hby7⟩ := info23'
  have hown2 : (W.alloc (.cells #[.int .i64 lo, .int .i64 hi] 23)).ownsRow B 23 2 u n xs := h.alloc _
  have hW3 : (W.alloc (.cells #[.int .i64 lo, .int .i64 hi] 23)).heap[W.heap.size]? = some (.cells #[.int .i64 lo, .int .i64 hi] 23 (0, 0)) := World.alloc_heap_new _ _
  obtain ⟨v', w', hr, q2, q3, -⟩ := run_append_own (P := Tryd.prog) (W.alloc (.cells #[.int .i64 lo, .int .i64 hi] 23)) B 61 61 23 i7 (.agg #[.int .i64 0, .int .i64 0]) 2 16 Tryd.underlying61 hi7 hz7 hsz7 hby7 rfl (by omega) u n xs hown2 ⟨W.heap.size, 0, none⟩ 1 1 [.int .i64 lo, .int .i64 hi] rfl (fun q u' hq => by
    have hadd : (⟨W.heap.size, 0, none⟩ : Addr).add q = ⟨W.heap.size, q, none⟩ := by unfold Addr.add; split <;> simp_all
    rw [hadd, cell_of_row _ _ _ _ _ _ hW3]
    match q with
    | 0 => simpa using hq
    | 1 => simpa using hq
    | q + 2 => simp at hq) (by simp [Value.oneCell']) (by simp only [maxLen]; omega) (by omega) (by simp; omega)
  refine ⟨v', w', hr, q2, ?_, ?_⟩
  · have hsz := q3.size
    rw [World.size_alloc] at hsz
    exact ⟨q3.os, q3.tape, q3.output, by omega, fun k hk ho => (q3.block k (by simp; omega) ho).trans (Below.heap_alloc _ _ _ hk)⟩
  · rcases q2.2 with ⟨_, h0⟩ | ⟨g, c, cur, he, _⟩
    · omega
    · exact ⟨g, c, he⟩
/-- The ranges of the first lots. -/
def spl (b : BK) (j : Nat) : List Value := (List.range j).flatMap fun i => [.int .i64 (endV b false (1 + i)), .int .i64 (endV b true (1 + i))]
theorem spl_succ (b : BK) (j : Nat) : spl b j ++ [.int .i64 (endV b false (1 + j)), .int .i64 (endV b true (1 + j))] = spl b (j + 1) := by
  unfold spl; rw [List.range_succ, List.flatMap_append]; simp
theorem span_in (b : BK) (hv : b.Valid) (hn : noneB b.es = false) (L : Nat) (hL : b.lots = L) (i : Nat) (hi : i < L) : 0 ≤ endV b false (1 + i) ∧ endV b false (1 + i) ≤ endV b true (1 + i) ∧ endV b true (1 + i) ≤ 1000 := by
  have ht := b.tight hv hn
  have h6 := hv.lots6
  have h12 := hv.tot
  have hN := b.rgN_eq L hL
  have h1 := ht.edge (a := 0) (c := ((1 + i : Nat) : Int)) (v := 1000) ((b.bound_iff hv _ _ _).2 ⟨2 * i, by unfold BK.bnN; omega, by rw [b.bn_even, b.rg_lot L i hL hi], by rw [b.bn_even, b.rg_lot L i hL hi]; simp, by rw [b.bn_even, b.rg_lot L i hL hi]⟩)
  have h2 := ht.edge (a := ((1 + i : Nat) : Int)) (c := 0) (v := -0) ((b.bound_iff hv _ _ _).2 ⟨2 * i + 1, by unfold BK.bnN; omega, by rw [b.bn_odd, b.rg_lot L i hL hi]; simp, by rw [b.bn_odd, b.rg_lot L i hL hi], by rw [b.bn_odd, b.rg_lot L i hL hi]⟩)
  simp only [Int.toNat_natCast, Int.toNat_zero] at h1 h2
  have hb := b.between hv L hL hn (b.least_truth hv L hL hn) 0 (1 + i) (by omega) (by omega)
  unfold endV
  rw [cond_false, cond_true]
  omega
def SpQ (b : BK) (w : World) (e : Ending) (w' : World) : Prop :=
  if noneB b.es = true then e = .returned (.tuple #[.slice none 0 0, .bool false, .bool true])
  else ∃ (N : Nat) (v : Value), b.lots = N ∧ e = .returned (.tuple #[v, .bool true, .bool true]) ∧ w'.ownsRow w.heap.size 23 2 v N (spl b N)
structure SI (b : BK) (V : World) (j : Nat) (v : Value) (wr : World) : Prop where
  pw : Pure V wr
  o : wr.ownsRow V.heap.size 23 2 v j (spl b j)
theorem reB_val2 {b : BK} (hc : checkB b = 0) : reB b = if noneB b.es = false then 5 else 0 := by unfold reB; rw [if_neg (by omega)]
theorem lotsC_in {b : BK} {N j : Nat} (hc : checkB b = 0) (hL : b.lots = N) (hj : j < N) : lotsC b (fun _ => (j : Int)) 1 = 0 := by
  unfold lotsC
  rw [if_neg (by omega), if_pos]
  rw [hL]; unfold wAll wIn; simp; omega

set_option maxRecDepth 20000 in
set_option maxHeartbeats 4000000 in
theorem spans_any (w : World) (b : BK) (p : Option Addr) (cap : Nat) (hs : b.Small) (hck : checkB b = 0) (hb : BookAt w.heap.size w p b) (hg : Gl w) :
    Calls Tryd.prog 51 #[bookV b p cap] w fun e w' => SpQ b w e w' ∧ Pure w w' := by
  have hmx : Tryd.prog.follows .mixedOrders = true := by kernel_rfl
  have HB := Lib.hid hb
  have HG := Lib.hid hg
  have hv := checkB_valid hck
  have HCK := Lib.hid hck
  clear hb hg hck
  go_enter Tryd.func51, Tryd.ntmps51
  go_wp2_with fail
  obtain ⟨X, hX⟩ : ∃ X, w.alloc (.cells (bookC b p cap) 26) = X := ⟨_, rfl⟩
  have hP : Hid (Pure w X) := by rw [← hX]; exact (Diff.refl w).alloc _
  have hX1 : BoxB w.heap.size b p cap X := by rw [← hX]; exact BoxB.new w b p cap 26
  obtain ⟨g0, hg0⟩ : ∃ g, w.heap.size = g := ⟨_, rfl⟩
  rw [hX]
  rw [hg0] at hX1 ⊢
  have HG0 := Lib.hid hg0
  clear hX hg0
  have H0 := Lib.hid hX1
  obtain ⟨c0, c1', c2', c3, cl⟩ := hX1
  go_wp2_with fail
  refine (Round_any X b p cap hs (HB.out.to hP.out) (HG.out.to hP.out)).mono ?_
  rintro e w1 ⟨hq, hp1⟩
  obtain ⟨lq, lc, l, rfl, -, -, -, -⟩ := RoQ.of hq
  have hP1 : Hid (Pure w w1) := hP.out.trans hp1
  have H1 := Lib.hid (H0.out.pure hp1)
  have HB1 := Lib.hid (HB.out.to hP1.out)
  have HG1 := Lib.hid (HG.out.to hP1.out)
  clear c0 c1' c2' c3 cl hp1 hP H0 HB HG hq
  obtain ⟨N, hN⟩ := Int.eq_ofNat_of_zero_le (show 0 ≤ b.lots by have := hv.lots1; omega)
  have hN6 : N ≤ 6 := by have := hv.lots6; omega
  have HL := Lib.hid hN
  clear hN
  have hre := reB_val2 HCK.out
  cases hno : noneB b.es with
  | false =>
    have HNO := Lib.hid hno
    rw [hno, if_pos rfl] at hre
    rw [hre]
    clear hre hno
    obtain ⟨c0, c1', c2', c3, cl⟩ := H1.out
    go_wp2_with fail
    clear c0 c1' c2' c3 cl
    go_loopw [5, 8] (fun s i wr => ∃ (j : Nat) (v : Value), j ≤ N ∧ i = .int .i64 j ∧ s = v ∧ Hid (SI b w1 j v wr)) (fun _ i _ => N - (intOf i).toNat)
    case atStart => exact ⟨0, _, Nat.zero_le _, rfl, rfl, ⟨Diff.refl _, World.ownsRow_nil _ _ _ _⟩⟩
    case round =>
      obtain ⟨j, v, hj, rfl, hs1, HE⟩ := hrel
      have hs1' := hs1.symm
      clear hs1
      subst hs1'
      have hj0 : 0 ≤ (j : Int) := by omega
      obtain ⟨c0, c1', c2', c3, cl⟩ := H1.out.pure HE.out.pw
      by_cases hjn : j < N
      · have hji : (j : Int) < b.lots := by rw [HL.out]; omega
        have HSP := Lib.hid (span_in b hv HNO.out N HL.out j hjn)
        have HQ : Hid (apQ b 0 (1 + j) 0 = .tuple #[.agg #[.int .i64 (endV b false (1 + j)), .int .i64 (endV b true (1 + j))], .int .i64 0]) := apQ_eO b HNO.out (1 + j) 0 rfl rfl
        have HLC := Lib.hid (lotsC_in HCK.out HL.out hjn)
        obtain ⟨lo, hlo⟩ : ∃ x, endV b false (1 + j) = x := ⟨_, rfl⟩
        obtain ⟨hi, hhi⟩ : ∃ x, endV b true (1 + j) = x := ⟨_, rfl⟩
        rw [hlo, hhi] at HQ HSP
        have HLO := Lib.hid hlo
        have HHI := Lib.hid hhi
        clear hlo hhi
        go_wp2_with fail
        refine (Span_any wr b p cap j hs (HB1.out.to HE.out.pw) (HG1.out.to HE.out.pw)).mono ?_
        rintro e w2 ⟨rfl, hp2⟩
        rw [HLC.out, Int.toNat_natCast, HQ.out]
        have hs0 := HSP.out
        have hl1 : ¬ lo < 0 := by omega
        have hl2 : ¬ hi < lo := by omega
        have hl3 : ¬ 1000 < hi := by omega
        clear c0 c1' c2' c3 cl hs0
        go_wp2_with fail
        obtain ⟨w3, hw3⟩ : ∃ W, w2.alloc (.cells #[.int .i64 lo, .int .i64 hi] 23) = W := ⟨_, rfl⟩
        have hp3 : Pure wr w3 := by rw [← hw3]; exact hp2.alloc _
        have hr3 : RgAt w2.heap.size lo hi w3 := by rw [← hw3]; exact RgAt.new _ _ _
        obtain ⟨g3, hg3⟩ : ∃ g, w2.heap.size = g := ⟨_, rfl⟩
        rw [hw3]
        rw [hg3] at hr3 ⊢
        clear hw3 hg3 hp2
        have HR3 := Lib.hid hr3
        have HP3 : Hid (Pure wr w3) := hp3
        clear hr3 hp3
        go_region
        obtain ⟨w4, hw4⟩ : ∃ W, w3.drew = W := ⟨_, rfl⟩
        have hp4 : Pure w3 w4 := by rw [← hw4]; exact (Diff.refl w3).drew
        rw [hw4]
        have HP4 : Hid (Pure wr w4) := HP3.out.trans hp4
        have r0 := (HR3.out.to hp4).c0
        have r1 := (HR3.out.to hp4).c1
        clear hw4 hp4 HP3 HR3
        have HO := Lib.hid (push_two (own_pure HE.out.o HP4.out) (by omega) (HE.out.pw.trans HP4.out).size lo hi)
        obtain ⟨v', w', hr, hown, hd, hform⟩ := HO.out
        have HE2 : Hid (SI b w1 (j + 1) v' w') := by
          refine ⟨(HE.out.pw.trans HP4.out).trans' hd (fun x hx hh => by have := (HE.out.o.lt x hh.symm).1; omega), ?_⟩
          rw [← spl_succ, HLO.out, HHI.out]
          exact hown
        clear hown hd HO
        obtain ⟨g', c', rfl⟩ := hform
        go_wp2_with (at_builtin; refine Lib.wpList_append_run _ rfl _ _ _ _ rfl _ _ rfl rfl _ _ hr ?_)
        exact ⟨⟨j + 1, _, by omega, by push_cast; rfl, rfl, HE2.out⟩, by simp only [intOf]; omega⟩
      · have hji : ¬ (j : Int) < b.lots := by rw [HL.out]; omega
        have hjN : j = N := by omega
        rw [hjN] at HE
        obtain ⟨q, c, rfl⟩ : ∃ q c, v = .slice q N c := by
          rcases HE.out.o.2 with ⟨rfl, h0⟩ | ⟨g, c, cur, rfl, _⟩
          · exact ⟨none, 0, by rw [h0]⟩
          · exact ⟨_, _, rfl⟩
        go_wp2_with fail
        have hsz := hP1.out.size
        exact bodyPost_ret (v := .tuple #[.slice q N c, .bool true, .bool true]) (by simp [results, Tryd.results51, go_sem]) rfl
          ⟨by unfold SpQ; rw [if_neg (by rw [HNO.out]; simp)]; exact ⟨N, _, HL.out, rfl, own_mono HE.out.o hsz⟩, hP1.out.trans HE.out.pw⟩
  | true =>
    have HNO := Lib.hid hno
    rw [hno, if_neg (by simp)] at hre
    rw [hre]
    clear hre hno
    obtain ⟨c0, c1', c2', c3, cl⟩ := H1.out
    go_wp2_with fail
    clear c0 c1' c2' c3 cl
    go_loopw [5, 8] (fun s i wr => ∃ (j : Nat), j ≤ N ∧ i = .int .i64 j ∧ s = .slice none 0 0 ∧ Hid (Pure w1 wr)) (fun _ i _ => N - (intOf i).toNat)
    case atStart => exact ⟨0, Nat.zero_le _, rfl, rfl, Diff.refl _⟩
    case round =>
      obtain ⟨j, hj, rfl, rfl, HE⟩ := hrel
      have hj0 : 0 ≤ (j : Int) := by omega
      obtain ⟨c0, c1', c2', c3, cl⟩ := H1.out.pure HE.out
      by_cases hjn : j < N
      · have hji : (j : Int) < b.lots := by rw [HL.out]; omega
        have HLC := Lib.hid (lotsC_in HCK.out HL.out hjn)
        go_wp2_with fail
        refine (Span_any wr b p cap j hs (HB1.out.to HE.out) (HG1.out.to HE.out)).mono ?_
        rintro e w2 ⟨rfl, hp2⟩
        rw [HLC.out, Int.toNat_natCast, apQ_eN b HNO.out]
        clear c0 c1' c2' c3 cl
        go_wp2_with fail
        obtain ⟨w3, hw3⟩ : ∃ W, w2.alloc (.cells #[.int .i64 0, .int .i64 0] 23) = W := ⟨_, rfl⟩
        have hp3 : Pure wr w3 := by rw [← hw3]; exact hp2.alloc _
        have hr3 : RgAt w2.heap.size 0 0 w3 := by rw [← hw3]; exact RgAt.new _ _ _
        obtain ⟨g3, hg3⟩ : ∃ g, w2.heap.size = g := ⟨_, rfl⟩
        rw [hw3]
        rw [hg3] at hr3 ⊢
        clear hw3 hg3 hp2
        have HR3 := Lib.hid hr3
        have HP3 : Hid (Pure wr w3) := hp3
        clear hr3 hp3
        refine reg_invW (fun d a W => a = { tmps := #[bookV b p cap, Value.pointer (some { block := g0, off := 0 }), u2, u3, u4, Value.slice none 0 0, Value.slice lq l.length lc, Value.int IntKind.i64 0, Value.int IntKind.i64 (j : Int), Value.pointer (some { block := g3, off := 0 }), Value.int IntKind.i64 17, Value.tuple #[Value.slice lq l.length lc, Value.int IntKind.i64 0], Value.agg #[Value.int IntKind.i64 b.lo, Value.int IntKind.i64 b.hi, Value.int IntKind.i64 b.lots, Value.slice p b.n cap], Value.tuple #[Value.slice lq l.length lc, Value.int IntKind.i64 0], Value.slice lq l.length lc, Value.int IntKind.i64 0, Value.int IntKind.i64 (j : Int), Value.pointer (some { block := g0, off := 2 }), Value.int IntKind.i64 b.lots, Value.bool true, u20, u21, Value.tuple #[Value.agg #[Value.int IntKind.i64 0, Value.int IntKind.i64 0], Value.int IntKind.i64 17], Value.agg #[Value.int IntKind.i64 b.lo, Value.int IntKind.i64 b.hi, Value.int IntKind.i64 b.lots, Value.slice p b.n cap], Value.int IntKind.i64 (j : Int), Value.tuple #[Value.agg #[Value.int IntKind.i64 0, Value.int IntKind.i64 0], Value.int IntKind.i64 17], Value.agg #[Value.int IntKind.i64 0, Value.int IntKind.i64 0], Value.int IntKind.i64 17, (bif d 0 then Value.int IntKind.i64 (0) else u28), (bif d 1 then Value.bool true else u29), (bif d 2 then Value.bool true else u30), (bif d 3 then Value.int IntKind.i64 (17) else u31), (bif d 4 then Value.bool true else u32), (bif d 5 then Value.bool true else u33), (bif d 6 then Value.bool true else u34), (bif d 7 then Value.agg #[Value.int IntKind.i64 0, Value.int IntKind.i64 0] else u35), (bif d 8 then Value.agg #[Value.int IntKind.i64 0, Value.int IntKind.i64 0] else u36), (bif d 9 then Value.bool true else u37), (bif d 10 then Value.bool true else u38), u39, u40, u41, u42, u43, u44, u45, u46, u47, u48, u49, u50, u51, u52, u53, u54, u55, u56, u57, u58, u59, u60, u61, u62, u63, u64, u65, undef, undef, undef], defers := [] } ∧ Hid (Pure w3 W)) hmx (by kernel_rfl) ?_ ?_ ?_
        · exact ⟨rfl, (Diff.refl w3).drew⟩
        · refine ⟨?_, ?_, ?_, ?_, ?_, ?_, ?_, ?_, ?_, ?_, ?_, trivial⟩
          · rintro d a W hdi hdep hcl ⟨rfl, hw⟩ K hK
            have E := hcl.facts 0 hdi rfl hdep [] [1, 2, 3, 4, 5, 6, 7, 8, 9, 10] (by kernel_rfl) (by kernel_rfl)
            simp only [AllT, AllF] at E
            clear hdi hdep hcl
            go_simp
            exact hK _ _ ⟨by simp [upd, E], hw⟩
          · rintro d a W hdi hdep hcl ⟨rfl, hw⟩ K hK
            have E := hcl.facts 1 hdi rfl hdep [0] [2, 3, 4, 5, 6, 7, 8, 9, 10] (by kernel_rfl) (by kernel_rfl)
            simp only [AllT, AllF] at E
            clear hdi hdep hcl
            go_simp
            exact hK _ _ ⟨by simp [upd, E], hw⟩
          · rintro d a W hdi hdep hcl ⟨rfl, hw⟩ K hK
            have E := hcl.facts 2 hdi rfl hdep [0, 1] [3, 4, 5, 6, 7, 8, 9, 10] (by kernel_rfl) (by kernel_rfl)
            simp only [AllT, AllF] at E
            clear hdi hdep hcl
            go_simp
            exact hK _ _ ⟨by simp [upd, E], hw⟩
          · rintro d a W hdi hdep hcl ⟨rfl, hw⟩ K hK
            have E := hcl.facts 3 hdi rfl hdep [0, 1, 2] [4, 5, 6, 7, 8, 9, 10] (by kernel_rfl) (by kernel_rfl)
            simp only [AllT, AllF] at E
            clear hdi hdep hcl
            go_simp
            exact hK _ _ ⟨by simp [upd, E], hw⟩
          · rintro d a W hdi hdep hcl ⟨rfl, hw⟩ K hK
            have E := hcl.facts 4 hdi rfl hdep [0, 1, 2, 3] [5, 6, 7, 8, 9, 10] (by kernel_rfl) (by kernel_rfl)
            simp only [AllT, AllF] at E
            clear hdi hdep hcl
            go_simp
            exact hK _ _ ⟨by simp [upd, E], hw⟩
          · rintro d a W hdi hdep hcl ⟨rfl, hw⟩ K hK
            have E := hcl.facts 5 hdi rfl hdep [0, 1, 2, 3, 4] [6, 7, 8, 9, 10] (by kernel_rfl) (by kernel_rfl)
            simp only [AllT, AllF] at E
            clear hdi hdep hcl
            go_simp
            exact hK _ _ ⟨by simp [upd, E], hw⟩
          · rintro d a W hdi hdep hcl ⟨rfl, hw⟩ K hK
            have E := hcl.facts 6 hdi rfl hdep [0, 1, 2, 3, 4, 5] [7, 8, 9, 10] (by kernel_rfl) (by kernel_rfl)
            simp only [AllT, AllF] at E
            clear hdi hdep hcl
            go_simp
            exact hK _ _ ⟨by simp [upd, E], hw⟩
          · rintro d a W hdi hdep hcl ⟨rfl, hw⟩ K hK
            have E := hcl.facts 7 hdi rfl hdep [0, 1, 2, 3, 4, 5, 6] [9, 10] (by kernel_rfl) (by kernel_rfl)
            simp only [AllT, AllF] at E
            clear hdi hdep hcl
            have r0 := (HR3.out.to hw.out).c0
            have r1 := (HR3.out.to hw.out).c1
            go_simp
            exact hK _ _ ⟨by simp [upd, E], hw⟩
          · rintro d a W hdi hdep hcl ⟨rfl, hw⟩ K hK
            have E := hcl.facts 8 hdi rfl hdep [0, 1, 2, 3, 4, 5, 6] [9, 10] (by kernel_rfl) (by kernel_rfl)
            simp only [AllT, AllF] at E
            clear hdi hdep hcl
            go_simp
            refine (to_any _ _ _).mono ?_
            rintro e w6 ⟨rfl, hp6⟩
            exact hK _ _ ⟨by simp [upd, E], hw.out.trans hp6⟩
          · rintro d a W hdi hdep hcl ⟨rfl, hw⟩ K hK
            have E := hcl.facts 9 hdi rfl hdep [0, 1, 2, 3, 4, 5, 6, 7, 8] [10] (by kernel_rfl) (by kernel_rfl)
            simp only [AllT, AllF] at E
            clear hdi hdep hcl
            go_simp
            exact hK _ _ ⟨by simp [upd, E], hw⟩
          · rintro d a W hdi hdep hcl ⟨rfl, hw⟩ K hK
            have E := hcl.facts 10 hdi rfl hdep [0, 1, 2, 3, 4, 5, 6, 7, 8, 9] [] (by kernel_rfl) (by kernel_rfl)
            simp only [AllT, AllF] at E
            clear hdi hdep hcl
            go_simp
            exact hK _ _ ⟨by simp [upd, E], hw⟩
        · rintro d a W hall ⟨rfl, hw⟩
          have E := AllT.all hall [0, 1, 2, 3, 4, 5, 6, 7, 8, 9, 10] (by kernel_rfl)
          simp only [AllT] at E
          simp only [E, cond_true] at hw ⊢
          clear E hall
          have HZ : Hid (Pure w1 W) := HE.out.trans (HP3.out.trans hw.out)
          go_wp2_with fail
          exact ⟨⟨j + 1, by omega, by push_cast; rfl, rfl, HZ.out⟩, by simp only [intOf]; omega⟩
      · have hji : ¬ (j : Int) < b.lots := by rw [HL.out]; omega
        go_wp2_with fail
        exact bodyPost_ret (v := .tuple #[.slice none 0 0, .bool false, .bool true]) (by simp [results, Tryd.results51, go_sem]) rfl
          ⟨by unfold SpQ; rw [if_pos HNO.out], hP1.out.trans HE.out⟩
end Go.Proofs.YtmedkmbfggphdaaDoor
