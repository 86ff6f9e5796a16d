/- Lists of lots that are copied and changed, for BlendMore. -/
import Derived.Test.YtgpfmnjianflaaaDoorE5
import Derived.Test.YtgpfmnjianflaaaDoorH1
set_option linter.unusedSimpArgs false
set_option linter.unusedVariables false
set_option linter.constructorNameAsVariable false
namespace Go.Proofs.YtgpfmnjianflaaaDoor
open Go.RowKit

theorem app_lots {W : World} {B n : Nat} {v : Value} {xs : List Value} (h : W.ownsRow B 71 2 v n xs) (hn : n ≤ 1000) (hB : B ≤ W.heap.size) {L : LT} {p : Option Addr} (cap : Nat) (hL : 1 ≤ L.n ∧ L.n ≤ 1000) (hl : LotsAt W.heap.size W p L) :
    ∃ v' w', (Builtin.append_ #[22, 22] 22 #[v, .slice p L.n cap]).run Tryd.prog W = .ok v' w' ∧ w'.ownsRow B 71 2 v' (n + L.n) (xs ++ valsL L L.n) ∧
      Diff (fun k => some k = v.ownBlock) W w' ∧ (v'.ownBlock = v.ownBlock ∨ v'.ownBlock = some W.heap.size) := by
  obtain ⟨i9, hi9, hzz⟩ := Option.map_eq_some_iff.1 info71
  simp only [Prod.mk.injEq] at hzz
  obtain ⟨hz9, hsz9, hby9⟩ := hzz
  obtain ⟨z, hz, hzc⟩ := Option.map_eq_some_iff.1 hz9
  obtain ⟨b2, o2, rfl, hb2, -, -⟩ := hl 0 (by omega)
  have hlen : (valsL L L.n).length = L.n * 2 := by unfold valsL; rw [valsO_length, List.length_range]
  have hnews : ∀ (j : Nat) (u : Value), (valsL L L.n)[j]? = some u → W.cell? ((⟨b2, o2, none⟩ : Addr).add j) = some u := by
    intro j u hj
    have hadd : (⟨b2, o2, none⟩ : Addr).add j = ⟨b2, o2 + j, none⟩ := by unfold Addr.add; split <;> simp_all
    rw [hadd]
    have hjn : j < L.n * 2 := by have := (List.getElem?_eq_some_iff.1 hj).1; omega
    obtain ⟨b3, o3, he, _, h1, h2⟩ := hl (j / 2) (by omega)
    cases he
    have hv := valsL_get L L.n (j / 2) (by omega)
    by_cases hp : j % 2 = 0
    · have e : j / 2 * 2 = j := by omega
      rw [e] at hv h1
      rw [h1, ← hv.1, hj]
    · have e : j / 2 * 2 + 1 = j := by omega
      rw [e] at hv
      rw [show o2 + j / 2 * 2 + 1 = o2 + j by omega] at h2
      rw [h2, ← hv.2, hj]
  obtain ⟨v', w', hr, q2, q3, -, q4⟩ := run_append_own_at (P := Tryd.prog) W B 22 22 71 i9 z 2 16 Tryd.underlying22 hi9 hz hsz9 hby9 hzc (by omega) v n xs h
    ⟨b2, o2, none⟩ L.n cap (valsL L L.n) hlen hnews (fun u hu => by
      obtain ⟨k, hk, rfl⟩ := List.getElem_of_mem hu
      have hv := valsL_get L L.n (k / 2) (by omega)
      have hk' : (valsL L L.n)[k]? = some (valsL L L.n)[k] := List.getElem?_eq_getElem hk
      by_cases hp : k % 2 = 0
      · rw [show k / 2 * 2 = k by omega, hk'] at hv
        rw [Option.some.inj hv.1]; rfl
      · rw [show k / 2 * 2 + 1 = k by omega, hk'] at hv
        rw [Option.some.inj hv.2]; rfl) (by simp only [maxLen]; omega) (by omega) hB
  exact ⟨v', w', hr, q2, ⟨q3.os, q3.tape, q3.output, q3.size, fun k hk ho => q3.block k hk ho⟩, q4⟩
theorem empty_own (W : World) {B : Nat} (hB : B ≤ W.heap.size) : (W.alloc (.cells #[] 71)).ownsRow B 71 2 (.slice (some ⟨W.heap.size, 0, none⟩) 0 0) 0 [] :=
  ⟨rfl, .inr ⟨W.heap.size, 0, #[], rfl, hB, World.alloc_heap_new _ _, Nat.le_refl _, by simp [maxLen], rfl, rfl⟩⟩
/-- One lot. -/
def oneL (s u : Int) : LT := ⟨1, fun _ => s, fun _ => u⟩
theorem one_at {W : World} {g : Nat} {s u : Int} (h : Blk g 71 #[.int .i64 s, .int .i64 u] W) : LotsAt W.heap.size W (some ⟨g, 0, none⟩) (oneL s u) := fun j hj => by
  have hj' : j < 1 := hj
  obtain rfl : j = 0 := by omega
  exact ⟨g, 0, rfl, h.lt, h.at 0, h.at 1⟩
theorem vals_one (s u : Int) : valsL (oneL s u) (oneL s u).n = [.int .i64 s, .int .i64 u] := rfl
theorem vals_plus (L : LT) (s u : Int) : valsL (L.plus s u) (L.n + 1) = valsL L L.n ++ [.int .i64 s, .int .i64 u] := by
  have h : valsL (L.plus s u) L.n = valsL L L.n := by
    refine valsL_eq L L.n (by unfold valsL; rw [valsO_length, List.length_range]) fun k hk => ?_
    have h1 := valsL_get (L.plus s u) L.n k hk
    have e1 : (L.plus s u).s k = L.s k := if_pos hk
    have e2 : (L.plus s u).p k = L.p k := if_pos hk
    rw [e1, e2] at h1; exact h1
  have e1 : (L.plus s u).s L.n = s := if_neg (Nat.lt_irrefl _)
  have e2 : (L.plus s u).p L.n = u := if_neg (Nat.lt_irrefl _)
  rw [valsL_succ, h, e1, e2]
/-- What stands in memory while a list is copied, and one lot put behind it. -/
structure XR (w : World) (L : LT) (s u : Int) (W : World) (d0 d2 d4 d5 : Bool) (u0 u2 u5 : Value) (g : Nat) : Prop where
  pw : Pure w W
  f0 : d0 = true → d2 = false → W.ownsRow w.heap.size 71 2 u0 0 []
  f2 : d2 = true → d5 = false → W.ownsRow w.heap.size 71 2 u2 L.n (valsL L L.n)
  f4 : d4 = true → d5 = false → Blk g 71 #[.int .i64 s, .int .i64 u] W ∧ (d0 = true → d2 = false → u0.ownBlock ≠ some g) ∧ (d2 = true → u2.ownBlock ≠ some g)
  f5 : d5 = true → W.ownsRow w.heap.size 71 2 u5 (L.n + 1) (valsL (L.plus s u) (L.n + 1))
theorem XR.start {w : World} {L : LT} {s u : Int} (u0 u2 u5 : Value) (g : Nat) : XR w L s u w.drew false false false false u0 u2 u5 g :=
  ⟨(Diff.refl w).drew, (fun h => Bool.noConfusion h), (fun h => Bool.noConfusion h), (fun h => Bool.noConfusion h), (fun h => Bool.noConfusion h)⟩
theorem XR.empty {w : World} {L : LT} {s u : Int} {W : World} {d4 : Bool} {u0 u2 u5 : Value} {g : Nat} (h : XR w L s u W false false d4 false u0 u2 u5 g) :
    XR w L s u (W.alloc (.cells #[] 71)) true false d4 false (.slice (some ⟨W.heap.size, 0, none⟩) 0 0) u2 u5 g :=
  ⟨h.pw.alloc _, fun _ _ => empty_own W h.pw.size, (fun h => Bool.noConfusion h), fun h1 _ => ⟨(h.f4 h1 rfl).1.alloc _, fun _ _ e => by
    have h2 := (h.f4 h1 rfl).1.lt
    have h3 : some W.heap.size = some g := e
    injection h3 with h3
    omega, (fun h => Bool.noConfusion h)⟩, (fun h => Bool.noConfusion h)⟩
theorem XR.single {w : World} {L : LT} {s u : Int} {W : World} {d0 d2 : Bool} {u0 u2 u5 : Value} {g : Nat} (h : XR w L s u W d0 d2 false false u0 u2 u5 g) :
    XR w L s u (W.alloc (.cells #[.int .i64 s, .int .i64 u] 71)) d0 d2 true false u0 u2 u5 W.heap.size :=
  ⟨h.pw.alloc _, fun h1 h2 => (h.f0 h1 h2).alloc _, fun h1 h2 => (h.f2 h1 h2).alloc _, fun _ _ => ⟨Blk.new _ _ _, fun h1 h2 e => by have := ((h.f0 h1 h2).lt _ e).2; omega, fun h1 e => by have := ((h.f2 h1 rfl).lt _ e).2; omega⟩, (fun h => Bool.noConfusion h)⟩
theorem XR.copied {w : World} {L : LT} {s u : Int} {W : World} {d4 : Bool} {u0 u2 u5 : Value} {g : Nat} {p : Option Addr} (cap : Nat) (hL : 1 ≤ L.n ∧ L.n ≤ 1000) (hl : LotsAt w.heap.size w p L) (h : XR w L s u W true false d4 false u0 u2 u5 g) :
    ∃ v' w', (Builtin.append_ #[22, 22] 22 #[u0, .slice p L.n cap]).run Tryd.prog W = .ok v' w' ∧ XR w L s u w' true true d4 false u0 v' u5 g := by
  obtain ⟨v', w', h1, h2, h3, h4⟩ := app_lots (h.f0 rfl rfl) (by omega) h.pw.size cap hL (hl.to h.pw)
  rw [Nat.zero_add, List.nil_append] at h2
  refine ⟨v', w', h1, h.pw.trans' h3 (fun x hx e => by have := ((h.f0 rfl rfl).lt _ e.symm).1; omega), (fun _ h => Bool.noConfusion h), fun _ _ => h2, fun k1 k2 => ?_, (fun h => Bool.noConfusion h)⟩
  obtain ⟨b1, b2, -⟩ := h.f4 k1 k2
  refine ⟨b1.diff h3 fun e => b2 rfl rfl e.symm, (fun _ h => Bool.noConfusion h), fun _ e => ?_⟩
  rcases h4 with h4 | h4
  · exact b2 rfl rfl (h4 ▸ e)
  · rw [h4] at e
    injection e with e
    have := b1.lt
    omega
theorem XR.joined {w : World} {L : LT} {s u : Int} {W : World} {u0 u2 u5 : Value} {g : Nat} (hL : L.n ≤ 1000) (h : XR w L s u W true true true false u0 u2 u5 g) :
    ∃ v' w', (Builtin.append_ #[22, 22] 22 #[u2, .slice (some ⟨g, 0, none⟩) 1 1]).run Tryd.prog W = .ok v' w' ∧ XR w L s u w' true true true true u0 u2 v' g := by
  obtain ⟨b1, -, b3⟩ := h.f4 rfl rfl
  obtain ⟨v', w', h1, h2, h3, h4⟩ := app_lots (L := oneL s u) (h.f2 rfl rfl) hL h.pw.size 1 ⟨Nat.le_refl _, by show 1 ≤ 1000; omega⟩ (one_at b1)
  rw [vals_one] at h2
  refine ⟨v', w', h1, h.pw.trans' h3 (fun x hx e => by have := ((h.f2 rfl rfl).lt _ e.symm).1; omega), (fun _ h => Bool.noConfusion h), (fun _ h => Bool.noConfusion h), (fun _ h => Bool.noConfusion h), fun _ => ?_⟩
  rw [vals_plus]; exact h2
theorem XR.drawn {w : World} {L : LT} {s u : Int} {W : World} {d0 d2 d4 d5 : Bool} {u0 u2 u5 : Value} {g : Nat} (h : XR w L s u W d0 d2 d4 d5 u0 u2 u5 g) : Pure w W := h.pw
/-- A list of its own, of which one Price is stored anew. -/
theorem own_set {W : World} {B : Nat} {v : Value} {L : LT} (h : W.ownsRow B 71 2 v L.n (valsL L L.n)) (hn : 1 ≤ L.n) (i : Nat) (hi : i < L.n) :
    ∃ g c, v = .slice (some ⟨g, 0, none⟩) L.n c ∧ B ≤ g ∧ g < W.heap.size ∧ (∀ o, W.frozen? ⟨g, o, none⟩ = false) ∧ LotsAt W.heap.size W (some ⟨g, 0, none⟩) L ∧
      ∀ x, LotsAt (W.setCell ⟨g, i * 2 + 1, none⟩ (.int .i64 x)).heap.size (W.setCell ⟨g, i * 2 + 1, none⟩ (.int .i64 x)) (some ⟨g, 0, none⟩) (L.cheapen i x) := by
  obtain ⟨q, c, rfl, hq⟩ := all_own h rfl
  rcases h.2 with ⟨_, h0⟩ | ⟨g, c', cur, e, hb, hg, h1, h2, h3, h4⟩
  · omega
  · obtain ⟨e1, _, e3⟩ := Value.slice.inj e
    subst e1
    have hB : Blk g 71 cur W := hg
    refine ⟨g, c, rfl, hb, hB.lt, fun o => hB.fz o, hq, fun x k hk => ⟨g, 0, rfl, by simpa [World.setCell] using hB.lt, ?_⟩⟩
    have hk' : k < L.n := hk
    obtain ⟨b, o, e, _, c1, c2⟩ := hq k hk'
    obtain ⟨rfl, rfl⟩ : b = g ∧ o = 0 := by injection e with e; injection e with e1 e2 e3; exact ⟨e1.symm, e2.symm⟩
    have hS := hB.set (i * 2 + 1) (.int .i64 x)
    rw [hB.at] at c1 c2
    rw [hS.at, hS.at, Array.getElem?_setIfInBounds, Array.getElem?_setIfInBounds]
    have hsz : k * 2 + 1 < cur.size := by omega
    refine ⟨?_, ?_⟩
    · rw [if_neg (by omega)]; exact c1
    · show _ = some (Value.int IntKind.i64 (if k = i then x else L.p k))
      by_cases e : k = i
      · subst e; rw [if_pos (by omega), if_pos (by omega), if_pos rfl]
      · rw [if_neg (by omega), if_neg e]; exact c2

theorem wf_u16m {n : Int} (h : (Lit.int .u16 n).wf = true) : 0 ≤ n ∧ n ≤ 65535 := by
  unfold Lit.wf at h
  rw [Bool.and_eq_true] at h
  exact ⟨of_decide_eq_true h.1, of_decide_eq_true h.2⟩
set_option maxRecDepth 20000 in
set_option maxHeartbeats 8000000 in
theorem MoreLaw_any (w : World) (L : LT) (p : Option Addr) (cap : Nat) (s u : Int) (n2 n3 n4 : Int) (hl : LotsAt w.heap.size w p L) (h2 : (Lit.int .u8 n2).wf = true) (h3 : (Lit.int .u16 n3).wf = true) (h4 : (Lit.int .u8 n4).wf = true) (hg : Gl w) :
    Calls Tryd.prog 11 #[.slice p L.n cap, .agg #[.int .i64 s, .int .i64 u], .int .u8 n2, .int .u16 n3, .int .u8 n4] w fun e w' => e = .returned (.bool true) ∧ Pure w w' := by
  have hmx : Tryd.prog.follows .mixedOrders = true := by kernel_rfl
  have HG := Lib.hid hg
  have HL := Lib.hid hl
  have H2 := Lib.hid (wf_u8 h2)
  have H3 := Lib.hid (wf_u16m h3)
  have H4 := Lib.hid (wf_u8 h4)
  have HP0 : Hid (Pure w w) := Diff.refl w
  clear hg hl h2 h3 h4
  go_enter Tryd.func11, Tryd.ntmps11
  go_wp2_with fail
  obtain ⟨X0, hX0⟩ : ∃ V : World, w.alloc (Obj.cells #[Value.int IntKind.i64 s, Value.int IntKind.i64 u] 71) = V := ⟨_, rfl⟩
  have hpX0 : Pure w X0 := by rw [← hX0]; exact ((Diff.refl w).alloc _)
  have bZ : Blk (w.heap.size) 71 #[Value.int IntKind.i64 s, Value.int IntKind.i64 u] X0 := by rw [← hX0]; exact (blk0 w 71 _)
  rw [hX0]
  obtain ⟨g0_0, hg0_0⟩ : ∃ g, w.heap.size = g := ⟨_, rfl⟩
  rw [hg0_0] at bZ ⊢
  have HP_0 := Lib.hid (HP0.out.trans hpX0)
  have HW_0 := Lib.hid (HG.out.to hpX0)
  have L_0 := Lib.hid (HL.out.to hpX0)
  have Z_0 := Lib.hid bZ
  clear hX0 hpX0 hg0_0 bZ HP0 HG HL
  refine (fine_any X0 L p cap L_0.out).mono ?_
  rintro e v1 ⟨rfl, hp⟩
  have HP_1 := Lib.hid (HP_0.out.trans hp)
  have HW_1 := Lib.hid (HW_0.out.to hp)
  have L_1 := Lib.hid (L_0.out.to hp)
  have Z_1 := Lib.hid (Z_0.out.to hp)
  clear hp  HP_0 HW_0 L_0 Z_0
  cases hfb : fineB L
  · clear hfb
    go_wp2_with fail
    refine (Works_any v1 HW_1.out).mono ?_
    rintro e v2 ⟨rfl, hp⟩
    have HP_2 := Lib.hid (HP_1.out.trans hp)
    have HW_2 := Lib.hid (HW_1.out.to hp)
    have L_2 := Lib.hid (L_1.out.to hp)
    have Z_2 := Lib.hid (Z_1.out.to hp)
    clear hp  HP_1 HW_1 L_1 Z_1
    go_wp2
    exact bodyPost_ret (v := .bool true) (by simp [results, Tryd.results11, go_sem]) rfl ⟨rfl, HP_2.out⟩
  · have HOK := Lib.hid (fineB_iff.1 hfb)
    clear hfb
    by_cases h8 : (8 : Int) ≤ (L.n : Int)
    · go_wp2_with fail
      refine (Works_any v1 HW_1.out).mono ?_
      rintro e v2 ⟨rfl, hp⟩
      have HP_2 := Lib.hid (HP_1.out.trans hp)
      have HW_2 := Lib.hid (HW_1.out.to hp)
      have L_2 := Lib.hid (L_1.out.to hp)
      have Z_2 := Lib.hid (Z_1.out.to hp)
      clear hp  HP_1 HW_1 L_1 Z_1
      go_wp2
      exact bodyPost_ret (v := .bool true) (by simp [results, Tryd.results11, go_sem]) rfl ⟨rfl, HP_2.out⟩
    · have HN : Hid (1 ≤ L.n ∧ L.n < 8) := ⟨HOK.out.n0, by omega⟩
      have HT : Hid (0 ≤ shp n4 ∧ shp n4 ≤ 100) := shp_in n4
      obtain ⟨r, hr⟩ : ∃ r : Nat, n2 = (r : Int) := ⟨n2.toNat, by have := H2.out; omega⟩
      subst hr
      obtain ⟨i, hi⟩ : ∃ i : Nat, r % L.n = i := ⟨_, rfl⟩
      have hiL : i < L.n := by rw [← hi]; exact Nat.mod_lt _ HOK.out.n0
      have HI := Lib.hid hiL
      have hq1 : IntKind.i64.wrap (r : Int) = (r : Int) := IntWalk.i64_in _ (by have := H2.out; omega)
      have hq2 : ((r : Int)).tmod (L.n : Int) = (i : Int) := by rw [Int.tmod_eq_emod_of_nonneg (by omega), ← hi, Int.natCast_emod]
      have hq3 : IntKind.i64.wrap (i : Int) = (i : Int) := IntWalk.i64_in _ (by have := HN.out; omega)
      have hq4 : ¬ L.n = 0 := by have := HN.out; omega
      clear hi hiL
      go_wp2_with fail
      refine WQ.region (C := Pure v1) hmx (by kernel_rfl) ((Diff.refl _).drew) ?_
      iterate 1 (refine WQ.step (fun K hK => ?_); go_simp; first | refine hK _ ?_ | refine ⟨_, fun _ _ => rfl, hK _ ?_⟩; clear hK K)
      refine WQ.call (by rfl) 46 #[.int .u8 n4] (.int .i64 (shp n4)) (fun V => by unfold execOp; simp [go_sem]) (fun V hV => by have h := sharpness_any V n4 H4.out; exact h.mono fun e V2 h => ⟨h.1, hV.trans h.2⟩) ?_
      iterate 7 (refine WQ.step (fun K hK => ?_); go_simp; first | refine hK _ ?_ | refine ⟨_, fun _ _ => rfl, hK _ ?_⟩; clear hK K)
      refine WQ.nil ?_
      rintro V hV
      have HP_2 := Lib.hid (HP_1.out.trans hV)
      have HW_2 := Lib.hid (HW_1.out.to hV)
      have L_2 := Lib.hid (L_1.out.to hV)
      have Z_2 := Lib.hid (Z_1.out.to hV)
      clear hV hq1 hq2 hq3 hq4 HP_1 HW_1 L_1 Z_1
      obtain ⟨t, ht⟩ : ∃ z, shp n4 = z := ⟨_, rfl⟩
      rw [ht] at HT ⊢
      clear ht
      go_wp2_with fail
      refine reg_invW (fun d a W => ∃ u0 u2 u5 : Value, ∃ g4 : Nat, a = { tmps := #[Value.slice p L.n cap, Value.agg #[Value.int IntKind.i64 s, Value.int IntKind.i64 u], Value.int IntKind.u8 (r : Int), Value.int IntKind.u16 n3, Value.int IntKind.u8 n4, undef, Value.pointer (some { block := g0_0, off := 0 }), undef, undef, undef, Value.bool false, Value.int IntKind.i64 t, Value.int IntKind.i64 (i : Int), (bif d 6 then u5 else undef), undef, Value.slice p L.n cap, Value.bool true, Value.bool false, Value.bool false, Value.slice p L.n cap, Value.int IntKind.i64 (L.n : Int), Value.bool (decide (8 ≤ (L.n : Int))), Value.bool (decide (8 ≤ (L.n : Int))), undef, Value.int IntKind.u8 n4, Value.int IntKind.i64 t, Value.int IntKind.u8 (r : Int), Value.int IntKind.i64 (r : Int), Value.slice p L.n cap, Value.int IntKind.i64 (L.n : Int), Value.int IntKind.i64 (i : Int), (bif d 0 then u0 else undef), (bif d 1 then Value.slice p L.n cap else undef), (bif d 2 then u2 else undef), (bif d 3 then Value.agg #[Value.int IntKind.i64 s, Value.int IntKind.i64 u] else undef), (bif d 4 then Value.slice (some { block := g4, off := 0 }) 1 1 else undef), (bif d 5 then u5 else undef), undef, undef, undef, undef, undef, undef, undef, undef, undef, undef, undef, undef, undef, undef, undef, undef, undef, undef, undef, undef, undef, undef, undef, undef, undef, undef, undef, undef, undef, undef, undef, undef, undef, undef, undef], defers := [] } ∧ XR V L s u W (d 0) (d 2) (d 4) (d 5) u0 u2 u5 g4) hmx (by kernel_rfl) ?_ ?_ ?_
      · exact ⟨.bool false, .bool false, .bool false, 0, rfl, XR.start _ _ _ _⟩
      · refine ⟨?_, ?_, ?_, ?_, ?_, ?_, ?_, trivial⟩
        · rintro d a W hdi hdep hcl ⟨u0, u2, u5, g4, rfl, hw⟩ K hK
          have E := hcl.facts 0 hdi rfl hdep [] [2, 5, 6] (by kernel_rfl) (by kernel_rfl)
          simp only [AllT, AllF] at E
          clear hdi hdep hcl
          simp only [E] at hw
          go_simp
          exact hK _ _ ⟨.slice (some ⟨W.heap.size, 0, none⟩) 0 0, u2, u5, g4, by simp [upd, E], by simpa [upd, E] using hw.empty⟩
        · rintro d a W hdi hdep hcl ⟨u0, u2, u5, g4, rfl, hw⟩ K hK
          have E := hcl.facts 1 hdi rfl hdep [] [2, 5, 6] (by kernel_rfl) (by kernel_rfl)
          simp only [AllT, AllF] at E
          clear hdi hdep hcl
          go_simp
          exact hK _ _ ⟨u0, u2, u5, g4, by simp [upd, E], by simpa [upd, E] using hw⟩
        · rintro d a W hdi hdep hcl ⟨u0, u2, u5, g4, rfl, hw⟩ K hK
          have E := hcl.facts 2 hdi rfl hdep [0, 1] [5, 6] (by kernel_rfl) (by kernel_rfl)
          simp only [AllT, AllF] at E
          clear hdi hdep hcl
          simp only [E] at hw
          obtain ⟨v9, w9, hr9, hx9⟩ := hw.copied cap ⟨by have := HN.out; omega, by have := HN.out; omega⟩ L_2.out
          rw [if_pos (by rfl)]
          refine wp_append_run _ _ _ rfl _ _ _ _ (by simp [Act.eval, E]) (by simp [Act.eval, E]) hr9 ?_
          go_simp
          exact hK _ _ ⟨u0, v9, u5, g4, by simp [upd, E], by simpa [upd, E] using hx9⟩
        · rintro d a W hdi hdep hcl ⟨u0, u2, u5, g4, rfl, hw⟩ K hK
          have E := hcl.facts 3 hdi rfl hdep [] [4, 5, 6] (by kernel_rfl) (by kernel_rfl)
          simp only [AllT, AllF] at E
          clear hdi hdep hcl
          have z := Z_2.out.to hw.pw
          have z0 := z.at 0
          have z1 := z.at 1
          have zl := z.lt
          clear z
          go_simp
          exact hK _ _ ⟨u0, u2, u5, g4, by simp [upd, E], by simpa [upd, E] using hw⟩
        · rintro d a W hdi hdep hcl ⟨u0, u2, u5, g4, rfl, hw⟩ K hK
          have E := hcl.facts 4 hdi rfl hdep [3] [5, 6] (by kernel_rfl) (by kernel_rfl)
          simp only [AllT, AllF] at E
          clear hdi hdep hcl
          simp only [E] at hw
          go_simp
          exact hK _ _ ⟨u0, u2, u5, W.heap.size, by simp [upd, E], by simpa [upd, E] using hw.single⟩
        · rintro d a W hdi hdep hcl ⟨u0, u2, u5, g4, rfl, hw⟩ K hK
          have E := hcl.facts 5 hdi rfl hdep [0, 1, 2, 3, 4] [6] (by kernel_rfl) (by kernel_rfl)
          simp only [AllT, AllF] at E
          clear hdi hdep hcl
          simp only [E] at hw
          obtain ⟨v9, w9, hr9, hx9⟩ := hw.joined (by have := HN.out; omega)
          rw [if_pos (by rfl)]
          refine wp_append_run _ _ _ rfl _ _ _ _ (by simp [Act.eval, E]) (by simp [Act.eval, E]) hr9 ?_
          go_simp
          exact hK _ _ ⟨u0, u2, v9, g4, by simp [upd, E], by simpa [upd, E] using hx9⟩
        · rintro d a W hdi hdep hcl ⟨u0, u2, u5, g4, rfl, hw⟩ K hK
          have E := hcl.facts 6 hdi rfl hdep [0, 1, 2, 3, 4, 5] [] (by kernel_rfl) (by kernel_rfl)
          simp only [AllT, AllF] at E
          clear hdi hdep hcl
          go_simp
          exact hK _ _ ⟨u0, u2, u5, g4, by simp [upd, E], by simpa [upd, E] using hw⟩
      · rintro d a W hall ⟨u0, u2, u5, g4, rfl, hw⟩
        have E := AllT.all hall [0, 1, 2, 3, 4, 5, 6] (by kernel_rfl)
        simp only [AllT] at E
        simp only [E, cond_true] at hw ⊢
        clear E hall
        have hpw := hw.pw
        have hox := hw.f5 rfl
        obtain ⟨qx, cx, rfl, hlx⟩ := all_own (L := L.plus s u) hox rfl
        clear hw hox
        have HP_3 := Lib.hid (HP_2.out.trans hpw)
        have HW_3 := Lib.hid (HW_2.out.to hpw)
        have L_3 := Lib.hid (L_2.out.to hpw)
        have Z_3 := Lib.hid (Z_2.out.to hpw)
        have X_3 := Lib.hid hlx
        clear hpw hlx HP_2 HW_2 L_2 Z_2
        obtain ⟨vy, wy, hry, hoy, hdy, hby⟩ := app_lots (empty_own W (Nat.le_refl _)) (by omega) (by rw [World.size_alloc]; omega) cap ⟨by have := HN.out; omega, by have := HN.out; omega⟩ ((L_3.out).to ((Diff.refl W).alloc (.cells #[] 71)))
        rw [Nat.zero_add, List.nil_append] at hoy
        have hpy : Pure W wy := ((Diff.refl W).alloc (.cells #[] 71)).trans' hdy (fun x hx e => by have h9 : some x = some W.heap.size := e; injection h9 with h9; omega)
        obtain ⟨gy, cy, rfl, hgy, hly, hfy, hqy, hsy⟩ := own_set hoy (by have := HN.out; omega) i HI.out
        have HGY : Hid (W.heap.size ≤ gy) := hgy
        have HSY := Lib.hid hsy
        have HFY := Lib.hid hfy
        have HLY := Lib.hid hly
        have HQY := Lib.hid hqy
        have HPY := Lib.hid hpy
        clear hgy hsy hfy hly hqy hoy hdy hby hpy
        obtain ⟨e9, he9⟩ : ∃ z, n3.tmod 1001 = z := ⟨_, rfl⟩
        have HE9 : Hid (0 ≤ e9 ∧ e9 ≤ 1000) := by have e := Int.tmod_eq_emod_of_nonneg (b := 1001) H3.out.1; exact (by omega : 0 ≤ e9 ∧ e9 ≤ 1000)
        have hq1 : IntKind.u16.wrap e9 = e9 := IntWalk.u16_in _ (by have := HE9.out; omega)
        have hq2 : IntKind.i64.wrap e9 = e9 := IntWalk.i64_in _ (by have := HE9.out; omega)
        have hpi : 0 ≤ L.p i ∧ L.p i ≤ 1000 := ⟨HOK.out.p0 i HI.out, HOK.out.p1 i HI.out⟩
        have hq3 : IntKind.i64.wrap (L.p i - e9) = L.p i - e9 := IntWalk.i64_in _ (by have := HE9.out; omega)
        have hii : (i : Int) < (L.n : Int) := by have := HI.out; omega
        obtain ⟨by', oy', ey, _, c0, c1⟩ := HQY.out i HI.out
        cases ey
        rw [Nat.zero_add] at c1
        have hfy := HFY.out
        have hly := HLY.out
        have HPI := Lib.hid hpi
        clear hpi c0
        by_cases hcy : 0 < L.p i - e9
        · go_wp2_with (at_builtin; refine Lib.wpList_append_run _ rfl _ _ _ _ rfl _ _ rfl rfl _ _ hry ?_)
          have hpz : Pure W (wy.setCell ⟨gy, i * 2 + 1, none⟩ (.int .i64 (L.p i - e9))) := HPY.out.setCell (p := ⟨gy, i * 2 + 1, none⟩) (fun h => Nat.lt_irrefl gy (Nat.lt_of_lt_of_le h HGY.out)) _
          have hlz := HSY.out (L.p i - e9)
          obtain ⟨WZ, hWZ⟩ : ∃ V : World, wy.setCell ⟨gy, i * 2 + 1, none⟩ (.int .i64 (L.p i - e9)) = V := ⟨_, rfl⟩
          rw [hWZ] at hpz hlz
          have HWZ := Lib.hid hWZ
          try rw [hWZ]
          have HCY := Lib.hid hcy
          clear hWZ hq1 hq2 hq3 hii c1 hfy hly hry he9 hcy
          have HP_4 := Lib.hid (HP_3.out.trans hpz)
          have HW_4 := Lib.hid (HW_3.out.to hpz)
          have L_4 := Lib.hid (L_3.out.to hpz)
          have Z_4 := Lib.hid (Z_3.out.to hpz)
          have X_4 := Lib.hid (X_3.out.to hpz)
          have Y_4 := Lib.hid hlz
          clear hpz hlz HP_3 HW_3 L_3 Z_3 X_3
          refine (fine_any WZ (L.plus s u) qx cx X_4.out).mono ?_
          rintro e v5 ⟨rfl, hp⟩
          have HP_5 := Lib.hid (HP_4.out.trans hp)
          have HW_5 := Lib.hid (HW_4.out.to hp)
          have L_5 := Lib.hid (L_4.out.to hp)
          have Z_5 := Lib.hid (Z_4.out.to hp)
          have X_5 := Lib.hid (X_4.out.to hp)
          have Y_5 := Lib.hid (Y_4.out.to hp)
          clear hp  HP_4 HW_4 L_4 Z_4 X_4 Y_4
          have HYO : Hid (L.cheapen i (L.p i - e9)).Ok := ok_cheapen HOK.out ⟨by have := HPI.out; have := HCY.out; omega, by have := HPI.out; have := HE9.out; omega⟩
          have HYD : Hid (Dom L (L.cheapen i (L.p i - e9))) := dom_cheapen (by have := HPI.out; have := HE9.out; omega)
          cases hfx : fineB (L.plus s u)
          · clear hfx
            go_wp2_with fail
            refine (noMore_any v5 L (L.cheapen i (L.p i - e9)) p (some ⟨gy, 0, none⟩) cap cy t HOK.out HYO.out HT.out HYD.out L_5.out Y_5.out HW_5.out).mono ?_
            rintro e v6 ⟨rfl, hp⟩
            have HP_6 := Lib.hid (HP_5.out.trans hp)
            have HW_6 := Lib.hid (HW_5.out.to hp)
            have L_6 := Lib.hid (L_5.out.to hp)
            have Z_6 := Lib.hid (Z_5.out.to hp)
            have X_6 := Lib.hid (X_5.out.to hp)
            have Y_6 := Lib.hid (Y_5.out.to hp)
            clear hp  HP_5 HW_5 L_5 Z_5 X_5 Y_5
            go_wp2_with fail
            refine (Works_any v6 HW_6.out).mono ?_
            rintro e v7 ⟨rfl, hp⟩
            have HP_7 := Lib.hid (HP_6.out.trans hp)
            have HW_7 := Lib.hid (HW_6.out.to hp)
            have L_7 := Lib.hid (L_6.out.to hp)
            have Z_7 := Lib.hid (Z_6.out.to hp)
            have X_7 := Lib.hid (X_6.out.to hp)
            have Y_7 := Lib.hid (Y_6.out.to hp)
            clear hp  HP_6 HW_6 L_6 Z_6 X_6 Y_6
            go_wp2
            exact bodyPost_ret (v := .bool true) (by simp [results, Tryd.results11, go_sem]) rfl ⟨rfl, HP_7.out⟩
          · have HXO := Lib.hid (fineB_iff.1 hfx)
            clear hfx
            go_wp2_with fail
            refine (noMore_any v5 L (L.plus s u) p qx cap cx t HOK.out HXO.out HT.out (dom_plus L s u) L_5.out X_5.out HW_5.out).mono ?_
            rintro e v6 ⟨rfl, hp⟩
            have HP_6 := Lib.hid (HP_5.out.trans hp)
            have HW_6 := Lib.hid (HW_5.out.to hp)
            have L_6 := Lib.hid (L_5.out.to hp)
            have Z_6 := Lib.hid (Z_5.out.to hp)
            have X_6 := Lib.hid (X_5.out.to hp)
            have Y_6 := Lib.hid (Y_5.out.to hp)
            clear hp  HP_5 HW_5 L_5 Z_5 X_5 Y_5
            go_wp2_with fail
            refine (noMore_any v6 L (L.cheapen i (L.p i - e9)) p (some ⟨gy, 0, none⟩) cap cy t HOK.out HYO.out HT.out HYD.out L_6.out Y_6.out HW_6.out).mono ?_
            rintro e v7 ⟨rfl, hp⟩
            have HP_7 := Lib.hid (HP_6.out.trans hp)
            have HW_7 := Lib.hid (HW_6.out.to hp)
            have L_7 := Lib.hid (L_6.out.to hp)
            have Z_7 := Lib.hid (Z_6.out.to hp)
            have X_7 := Lib.hid (X_6.out.to hp)
            have Y_7 := Lib.hid (Y_6.out.to hp)
            clear hp  HP_6 HW_6 L_6 Z_6 X_6 Y_6
            go_wp2_with fail
            refine (Works_any v7 HW_7.out).mono ?_
            rintro e v8 ⟨rfl, hp⟩
            have HP_8 := Lib.hid (HP_7.out.trans hp)
            have HW_8 := Lib.hid (HW_7.out.to hp)
            have L_8 := Lib.hid (L_7.out.to hp)
            have Z_8 := Lib.hid (Z_7.out.to hp)
            have X_8 := Lib.hid (X_7.out.to hp)
            have Y_8 := Lib.hid (Y_7.out.to hp)
            clear hp  HP_7 HW_7 L_7 Z_7 X_7 Y_7
            go_wp2
            exact bodyPost_ret (v := .bool true) (by simp [results, Tryd.results11, go_sem]) rfl ⟨rfl, HP_8.out⟩
        · go_wp2_with (at_builtin; refine Lib.wpList_append_run _ rfl _ _ _ _ rfl _ _ rfl rfl _ _ hry ?_)
          have hpz : Pure W (wy.setCell ⟨gy, i * 2 + 1, none⟩ (.int .i64 0)) := HPY.out.setCell (p := ⟨gy, i * 2 + 1, none⟩) (fun h => Nat.lt_irrefl gy (Nat.lt_of_lt_of_le h HGY.out)) _
          have hlz := HSY.out 0
          obtain ⟨WZ, hWZ⟩ : ∃ V : World, wy.setCell ⟨gy, i * 2 + 1, none⟩ (.int .i64 0) = V := ⟨_, rfl⟩
          rw [hWZ] at hpz hlz
          have HWZ := Lib.hid hWZ
          try rw [hWZ]
          have HCY := Lib.hid hcy
          clear hWZ hq1 hq2 hq3 hii c1 hfy hly hry he9 hcy
          have HP_4 := Lib.hid (HP_3.out.trans hpz)
          have HW_4 := Lib.hid (HW_3.out.to hpz)
          have L_4 := Lib.hid (L_3.out.to hpz)
          have Z_4 := Lib.hid (Z_3.out.to hpz)
          have X_4 := Lib.hid (X_3.out.to hpz)
          have Y_4 := Lib.hid hlz
          clear hpz hlz HP_3 HW_3 L_3 Z_3 X_3
          refine (fine_any WZ (L.plus s u) qx cx X_4.out).mono ?_
          rintro e v5 ⟨rfl, hp⟩
          have HP_5 := Lib.hid (HP_4.out.trans hp)
          have HW_5 := Lib.hid (HW_4.out.to hp)
          have L_5 := Lib.hid (L_4.out.to hp)
          have Z_5 := Lib.hid (Z_4.out.to hp)
          have X_5 := Lib.hid (X_4.out.to hp)
          have Y_5 := Lib.hid (Y_4.out.to hp)
          clear hp  HP_4 HW_4 L_4 Z_4 X_4 Y_4
          have HYO : Hid (L.cheapen i 0).Ok := ok_cheapen HOK.out ⟨by have := HPI.out; have := HCY.out; omega, by have := HPI.out; have := HE9.out; omega⟩
          have HYD : Hid (Dom L (L.cheapen i 0)) := dom_cheapen (by have := HPI.out; have := HE9.out; omega)
          cases hfx : fineB (L.plus s u)
          · clear hfx
            go_wp2_with fail
            refine (noMore_any v5 L (L.cheapen i 0) p (some ⟨gy, 0, none⟩) cap cy t HOK.out HYO.out HT.out HYD.out L_5.out Y_5.out HW_5.out).mono ?_
            rintro e v6 ⟨rfl, hp⟩
            have HP_6 := Lib.hid (HP_5.out.trans hp)
            have HW_6 := Lib.hid (HW_5.out.to hp)
            have L_6 := Lib.hid (L_5.out.to hp)
            have Z_6 := Lib.hid (Z_5.out.to hp)
            have X_6 := Lib.hid (X_5.out.to hp)
            have Y_6 := Lib.hid (Y_5.out.to hp)
            clear hp  HP_5 HW_5 L_5 Z_5 X_5 Y_5
            go_wp2_with fail
            refine (Works_any v6 HW_6.out).mono ?_
            rintro e v7 ⟨rfl, hp⟩
            have HP_7 := Lib.hid (HP_6.out.trans hp)
            have HW_7 := Lib.hid (HW_6.out.to hp)
            have L_7 := Lib.hid (L_6.out.to hp)
            have Z_7 := Lib.hid (Z_6.out.to hp)
            have X_7 := Lib.hid (X_6.out.to hp)
            have Y_7 := Lib.hid (Y_6.out.to hp)
            clear hp  HP_6 HW_6 L_6 Z_6 X_6 Y_6
            go_wp2
            exact bodyPost_ret (v := .bool true) (by simp [results, Tryd.results11, go_sem]) rfl ⟨rfl, HP_7.out⟩
          · have HXO := Lib.hid (fineB_iff.1 hfx)
            clear hfx
            go_wp2_with fail
            refine (noMore_any v5 L (L.plus s u) p qx cap cx t HOK.out HXO.out HT.out (dom_plus L s u) L_5.out X_5.out HW_5.out).mono ?_
            rintro e v6 ⟨rfl, hp⟩
            have HP_6 := Lib.hid (HP_5.out.trans hp)
            have HW_6 := Lib.hid (HW_5.out.to hp)
            have L_6 := Lib.hid (L_5.out.to hp)
            have Z_6 := Lib.hid (Z_5.out.to hp)
            have X_6 := Lib.hid (X_5.out.to hp)
            have Y_6 := Lib.hid (Y_5.out.to hp)
            clear hp  HP_5 HW_5 L_5 Z_5 X_5 Y_5
            go_wp2_with fail
            refine (noMore_any v6 L (L.cheapen i 0) p (some ⟨gy, 0, none⟩) cap cy t HOK.out HYO.out HT.out HYD.out L_6.out Y_6.out HW_6.out).mono ?_
            rintro e v7 ⟨rfl, hp⟩
            have HP_7 := Lib.hid (HP_6.out.trans hp)
            have HW_7 := Lib.hid (HW_6.out.to hp)
            have L_7 := Lib.hid (L_6.out.to hp)
            have Z_7 := Lib.hid (Z_6.out.to hp)
            have X_7 := Lib.hid (X_6.out.to hp)
            have Y_7 := Lib.hid (Y_6.out.to hp)
            clear hp  HP_6 HW_6 L_6 Z_6 X_6 Y_6
            go_wp2_with fail
            refine (Works_any v7 HW_7.out).mono ?_
            rintro e v8 ⟨rfl, hp⟩
            have HP_8 := Lib.hid (HP_7.out.trans hp)
            have HW_8 := Lib.hid (HW_7.out.to hp)
            have L_8 := Lib.hid (L_7.out.to hp)
            have Z_8 := Lib.hid (Z_7.out.to hp)
            have X_8 := Lib.hid (X_7.out.to hp)
            have Y_8 := Lib.hid (Y_7.out.to hp)
            clear hp  HP_7 HW_7 L_7 Z_7 X_7 Y_7
            go_wp2
            exact bodyPost_ret (v := .bool true) (by simp [results, Tryd.results11, go_sem]) rfl ⟨rfl, HP_8.out⟩
end Go.Proofs.YtgpfmnjianflaaaDoor
