/- The law's helpers: twinBook. No condition. -/
import Derived.Test.YtmedkmbfggphdaaDoorR5
import Derived.Maps.AppendAt
import Derived.Deep.Upon
set_option linter.unusedSimpArgs false
set_option linter.unusedVariables false
set_option linter.constructorNameAsVariable false
namespace Go.Proofs.YtmedkmbfggphdaaDoor
open Go.RowKit

/-- A sitting as SitAt says, in a block that is not av. -/
def SitX (B : Nat) (w : World) (av : Option Nat) (q : Option Addr) (m : Nat) (t : Nat → TS) : Prop :=
  ∀ j, j < m → ∃ b o, q = some ⟨b, o, none⟩ ∧ b < w.heap.size ∧ B ≤ b ∧ some b ≠ av ∧ w.cell? ⟨b, o + j * 3, none⟩ = some (.int .i64 (t j).lot) ∧
    w.cell? ⟨b, o + j * 3 + 1, none⟩ = some (.int .i64 (t j).lo) ∧ w.cell? ⟨b, o + j * 3 + 2, none⟩ = some (.int .i64 (t j).hi)
theorem SitX.sit {B : Nat} {w : World} {av : Option Nat} {q : Option Addr} {m : Nat} {t : Nat → TS} (h : SitX B w av q m t) : SitAt w.heap.size w q m t := fun j hj => by
  obtain ⟨b, o, h1, h2, -, -, h3⟩ := h j hj
  exact ⟨b, o, h1, h2, h3⟩
theorem SitX.base {B B' : Nat} {w : World} {av : Option Nat} {q : Option Addr} {m : Nat} {t : Nat → TS} (h : SitX B w av q m t) (hB : B' ≤ B) : SitX B' w av q m t := fun j hj => by
  obtain ⟨b, o, h1, h2, h0, h3⟩ := h j hj
  exact ⟨b, o, h1, h2, by omega, h3⟩
theorem SitX.step {B : Nat} {w w' : World} {av av' : Option Nat} {q : Option Addr} {m : Nat} {t : Nat → TS} (h : SitX B w av q m t) (hs : w.heap.size ≤ w'.heap.size)
    (hb : ∀ b, b < w.heap.size → B ≤ b → some b ≠ av → w'.heap[b]? = w.heap[b]? ∧ some b ≠ av') : SitX B w' av' q m t := fun j hj => by
  obtain ⟨b, o, h1, h2, h0, h3, h4, h5, h6⟩ := h j hj
  obtain ⟨k1, k2⟩ := hb b h2 h0 h3
  have hc : ∀ o, w'.cell? ⟨b, o, none⟩ = w.cell? ⟨b, o, none⟩ := fun o => World.cell?_of_block (w := w) k1
  exact ⟨b, o, h1, by omega, h0, k2, (hc _).trans h4, (hc _).trans h5, (hc _).trans h6⟩
theorem info59 : (Tryd.prog.info? 59).map (fun i => (i.zero, i.size, i.bytes)) = some (some (.slice none 0 0), 1, 24) := by kernel_rfl
theorem info59' : ∃ i, Tryd.prog.info? 59 = some i ∧ i.zero = some (.slice none 0 0) ∧ i.size = 1 ∧ i.bytes = 24 := by
  have h := info59
  obtain ⟨i, hi, hzz⟩ := Option.map_eq_some_iff.1 h
  simp only [Prod.mk.injEq] at hzz
  exact ⟨i, hi, hzz.1, hzz.2.1, hzz.2.2⟩
/-- A sitting is copied. -/
theorem twin_sit (w : World) (b : BK) (k : Nat) (q : Option Addr) (c B : Nat) (hB : B ≤ w.heap.size) (hm : b.m k ≤ 100) (h : SitAt B w q (b.m k) (b.t k)) :
    ∃ q2 c2 w2, (Builtin.append_ #[59, 59] 59 #[.slice none 0 0, .slice q (b.m k) c]).run Tryd.prog w = .ok (.slice q2 (b.m k) c2) w2 ∧ Pure w w2 ∧
      ∀ av : Option Nat, (∀ g, av = some g → g < w.heap.size) → SitX w.heap.size w2 av q2 (b.m k) (b.t k) := by
  obtain ⟨i7, hi7, hz7, hsz7, hby7⟩ := info70'
  by_cases h0 : b.m k = 0
  · refine ⟨none, 0, w, ?_, Diff.refl w, fun av _ j hj => by omega⟩
    rw [h0]
    refine run_append_nothing w 59 59 59 70 i7 Tryd.underlying59 hi7 none 0 0 (Nat.le_refl _) _ ?_
    cases q with
    | none => exact Src.ofNil w Tryd.underlying59 c
    | some a => exact Src.ofSlice w Tryd.underlying59 a 0 c [] (by simp) (fun j u hj => by simp at hj) (fun u hu => by cases hu)
  · obtain ⟨b2, o2, rfl, hb2, -⟩ := h 0 (by omega)
    have hnews : ∀ (j : Nat) (u : Value), (b.rowC k (b.m k))[j]? = some u → w.cell? ((⟨b2, o2, none⟩ : Addr).add j) = some u := by
      intro j u hj
      have hadd : (⟨b2, o2, none⟩ : Addr).add j = ⟨b2, o2 + j, none⟩ := by unfold Addr.add; split <;> simp_all
      rw [hadd]
      refine b.rowC_get k w b2 o2 (b.m k) (fun j hj => ?_) j u hj
      obtain ⟨b3, o3, he, _, h1, h2, h3⟩ := h j hj
      cases he
      exact ⟨h1, h2, h3⟩
    obtain ⟨v', w', hr, q2, q3, -⟩ := run_append_own (P := Tryd.prog) w w.heap.size 59 59 70 i7 (.agg #[.int .i64 0, .int .i64 0, .int .i64 0]) 3 24 Tryd.underlying59 hi7 hz7 hsz7 hby7 rfl (by omega) (.slice none 0 0) 0 [] (World.ownsRow_nil _ _ _ _)
      ⟨b2, o2, none⟩ (b.m k) c (b.rowC k (b.m k)) (b.rowC_length k (b.m k)) hnews (b.rowC_one k (b.m k)) (by simp only [maxLen]; omega) (by omega) (Nat.le_refl _)
    rw [Nat.zero_add, List.nil_append] at q2
    have hp : Pure w w' := grown_pure (Diff.refl w) q3 (fun x hx => by simp [Value.ownBlock] at hx)
    rcases q2.2 with ⟨rfl, hn⟩ | ⟨g, c', cur, rfl, h1, h2, h3⟩
    · omega
    · refine ⟨_, c', w', hr, hp, fun av hav j hj => ⟨g, 0, rfl, (Array.getElem?_eq_some_iff.1 h2).1, h1, fun e => ?_, ?_⟩⟩
      · have := hav g e.symm; omega
      · have hc := World.ownsRow.cellAt q2
        obtain ⟨a1, a2, a3⟩ := b.rowC_at k (b.m k) j hj
        rw [Nat.zero_add]
        exact ⟨(hc _ (by omega)).trans a1, (hc _ (by omega)).trans a2, (hc _ (by omega)).trans a3⟩
/-- What stands behind k rounds of twinBook. -/
def TwinI (b : BK) (B : Nat) (u : Value) (k : Nat) (w : World) : Prop :=
  ∃ ss : List Value, w.ownsRow B 59 1 u k ss ∧ ∀ j, j < k → ∃ q c, ss[j]? = some (.slice q (b.m j) c) ∧ SitX B w u.ownBlock q (b.m j) (b.t j)

set_option maxRecDepth 20000 in
set_option maxHeartbeats 4000000 in
theorem twinBook_any (w : World) (b : BK) (p : Option Addr) (cap : Nat) (hs : b.Small) (hb : BookAt w.heap.size w p b) :
    Calls Tryd.prog 21 #[bookV b p cap] w fun e w' => ∃ p' cap', e = .returned (bookV b p' cap') ∧ BookAt w'.heap.size w' p' b ∧ Pure w w' := by
  have hn := hs.1
  obtain ⟨i9, hi9, hz9, hsz9, hby9⟩ := info59'
  go_enter Tryd.func21, Tryd.ntmps21
  go_wp2_with fail
  obtain ⟨X, hX⟩ : ∃ X, (w.alloc (.cells (bookC b p cap) 26)).alloc (.cells #[.int .i64 0, .int .i64 0, .int .i64 0, .slice none 0 0] 26) = X := ⟨_, rfl⟩
  have HP : Hid (Pure w X) := by rw [← hX]; exact ((Diff.refl w).alloc _).alloc _
  have hXs : X.heap.size = w.heap.size + 2 := by rw [← hX]; simp
  have hX0 : X.heap[w.heap.size]? = some (.cells (bookC b p cap) 26 (0, 0)) := by rw [← hX]; exact (Below.heap_alloc _ _ _ (by simp)).trans (World.alloc_heap_new _ _)
  have hX1 : X.heap[w.heap.size + 1]? = some (.cells #[.int .i64 0, .int .i64 0, .int .i64 0, .slice none 0 0] 26 (0, 0)) := by
    rw [← hX]
    have := World.alloc_heap_new (w.alloc (.cells (bookC b p cap) 26)) (.cells #[.int .i64 0, .int .i64 0, .int .i64 0, .slice none 0 0] 26)
    rwa [World.size_alloc] at this
  rw [hX]
  clear hX
  have H0 := Lib.hid hX0
  have H1 := Lib.hid hX1
  have HB : Hid (BookAt w.heap.size w p b) := hb
  have z3 : X.cell? ⟨w.heap.size, 3, none⟩ = some (.slice p b.n cap) := by rw [cell_of_row X _ _ _ _ _ hX0]; rfl
  clear hX0 hX1 hb
  have hl0 : w.heap.size < X.heap.size := by omega
  go_loopw [3, 4] (fun u i wr => ∃ (k : Nat) (v : Value), k ≤ b.n ∧ i = .int .i64 k ∧ u = v ∧ Hid (TwinI b X.heap.size v k wr) ∧ Hid (Pure X wr)) (fun _ i _ => b.n - (intOf i).toNat)
  case atStart => exact ⟨0, _, Nat.zero_le _, rfl, rfl, ⟨[], World.ownsRow_nil _ _ _ _, fun j hj => by omega⟩, Diff.refl _⟩
  case round =>
    obtain ⟨k, v, hk, rfl, huv, HT, HPr⟩ := hrel
    have huv' := huv.symm
    clear huv
    subst huv'
    have z3r := ((pcell HPr.out).1 _ _ hl0).trans z3
    by_cases hkn : k < b.n
    · obtain ⟨sb, so, q, c, rfl, hsb, hc, hsit⟩ := HB.out k hkn
      have hcr := ((pcell (HP.out.trans HPr.out)).1 _ _ hsb).trans hc
      have hki : (k : Int) < b.n := by omega
      have hk0 : (0 : Int) ≤ k := by omega
      have hm := hs.2 k hkn
      have hss : w.heap.size ≤ wr.heap.size := by have := HPr.out.size; omega
      obtain ⟨q2, c2, w2, hap, hp2, hsx⟩ := twin_sit wr b k q c w.heap.size hss (by omega) (hsit.diff (HP.out.trans HPr.out) (Nat.le_refl _) (fun _ _ => id))
      have HP2 := Lib.hid hp2
      have HSX := Lib.hid hsx
      obtain ⟨ss, hown, hall⟩ := HT.out
      have hown2 : (w2.alloc (.cells #[.slice q2 (b.m k) c2] 59)).ownsRow X.heap.size 59 1 v k ss := own_pure hown (hp2.alloc _)
      have hW3 : (w2.alloc (.cells #[.slice q2 (b.m k) c2] 59)).heap[w2.heap.size]? = some (.cells #[.slice q2 (b.m k) c2] 59 (0, 0)) := World.alloc_heap_new _ _
      have hXw : X.heap.size ≤ w2.heap.size := Nat.le_trans HPr.out.size hp2.size
      obtain ⟨v', w', hr2, o2, g2, -, own2⟩ := run_append_own_at (P := Tryd.prog) (w2.alloc (.cells #[.slice q2 (b.m k) c2] 59)) X.heap.size 24 24 59 i9 (.slice none 0 0) 1 24 Tryd.underlying24 hi9 hz9 hsz9 hby9 rfl (by omega) v k ss hown2
        ⟨w2.heap.size, 0, none⟩ 1 1 [.slice q2 (b.m k) c2] rfl (fun j x hj => by
          have hadd : (⟨w2.heap.size, 0, none⟩ : Addr).add j = ⟨w2.heap.size, j, none⟩ := by unfold Addr.add; split <;> simp_all
          rw [hadd, cell_of_row _ _ _ _ _ _ hW3]
          match j with
          | 0 => simpa using hj
          | j + 1 => simp at hj) (by simp [Value.oneCell']) (by simp only [maxLen]; omega) (by omega) (by simp; omega)
      have hp3 : Pure X w' := grown_pure (HPr.out.trans (hp2.alloc _)) g2 (fun x hx => (hown.lt x hx).1)
      have HT2 : Hid (TwinI b X.heap.size v' (k + 1) w') := by
        refine ⟨_, o2, fun j hj => ?_⟩
        have hsz := g2.size
        rw [World.size_alloc] at hsz own2
        have hfar : ∀ g, v.ownBlock = some g → g < wr.heap.size := fun g hg => (hown.lt g hg).2
        have hstep : ∀ g, g < w2.heap.size → X.heap.size ≤ g → some g ≠ v.ownBlock → w'.heap[g]? = w2.heap[g]? ∧ some g ≠ v'.ownBlock := fun g hg _ hne => by
          refine ⟨(g2.block g (by simp; omega) (fun e => hne e)).trans (Below.heap_alloc _ _ _ hg), ?_⟩
          rcases own2 with e | e
          · rw [e]; exact hne
          · rw [e]; intro e2; have := Option.some.inj e2; omega
        by_cases hjk : j = k
        · subst hjk
          refine ⟨q2, c2, ?_, (((hsx v.ownBlock hfar).base HPr.out.size).step (by omega) hstep)⟩
          have hl : ss.length = j := by have := hown.1; omega
          rw [List.getElem?_append_right (by omega), hl, Nat.sub_self]; rfl
        · obtain ⟨qj, cj, h1, h2⟩ := hall j (by omega)
          have hl : ss.length = k := by have := hown.1; omega
          refine ⟨qj, cj, by rw [List.getElem?_append_left (by omega)]; exact h1, (h2.step (w' := w2) hp2.size (fun g hg _ hne => ⟨hp2.block g hg id, hne⟩)).step (by omega) hstep⟩
      have HP3 := Lib.hid hp3
      clear hc hsit hp2 hsx hown hall hown2 hW3 hXw o2 g2 own2 hp3
      go_wp2_with (at_builtin; first | refine Lib.wpList_append_run _ rfl _ _ _ _ rfl _ _ rfl rfl _ _ hap ?_ | refine Lib.wpList_append_run _ rfl _ _ _ _ rfl _ _ rfl rfl _ _ hr2 ?_)
      exact ⟨⟨k + 1, _, by omega, by push_cast; rfl, rfl, HT2.out, HP3.out⟩, by simp only [intOf]; omega⟩
    · obtain rfl : k = b.n := by omega
      obtain ⟨ss, hown, hall⟩ := HT.out
      have hform : ∃ p' c', v = .slice p' b.n c' := by
        rcases hown.2 with ⟨h1, h2⟩ | ⟨g, c', cur, h1, _⟩
        · exact ⟨none, 0, by rw [h1, h2]⟩
        · exact ⟨_, c', h1⟩
      obtain ⟨p', c', rfl⟩ := hform
      have y0 := ((pcell HPr.out).1 _ _ hl0).trans (show X.cell? ⟨w.heap.size, 0, none⟩ = some (.int .i64 b.lo) by rw [cell_of_row X _ _ _ _ _ H0.out]; rfl)
      have y1 := ((pcell HPr.out).1 _ _ hl0).trans (show X.cell? ⟨w.heap.size, 1, none⟩ = some (.int .i64 b.hi) by rw [cell_of_row X _ _ _ _ _ H0.out]; rfl)
      have y2 := ((pcell HPr.out).1 _ _ hl0).trans (show X.cell? ⟨w.heap.size, 2, none⟩ = some (.int .i64 b.lots) by rw [cell_of_row X _ _ _ _ _ H0.out]; rfl)
      have hl1 : w.heap.size + 1 < X.heap.size := by omega
      have x0 := ((pcell HPr.out).1 _ _ hl1).trans (show X.cell? ⟨w.heap.size + 1, 0, none⟩ = some (.int .i64 0) by rw [cell_of_row X _ _ _ _ _ H1.out]; rfl)
      have x1 := ((pcell HPr.out).1 _ _ hl1).trans (show X.cell? ⟨w.heap.size + 1, 1, none⟩ = some (.int .i64 0) by rw [cell_of_row X _ _ _ _ _ H1.out]; rfl)
      have x2 := ((pcell HPr.out).1 _ _ hl1).trans (show X.cell? ⟨w.heap.size + 1, 2, none⟩ = some (.int .i64 0) by rw [cell_of_row X _ _ _ _ _ H1.out]; rfl)
      have x3 := ((pcell HPr.out).1 _ _ hl1).trans (show X.cell? ⟨w.heap.size + 1, 3, none⟩ = some (.slice none 0 0) by rw [cell_of_row X _ _ _ _ _ H1.out]; rfl)
      have f0 : ∀ o, wr.frozen? ⟨w.heap.size, o, none⟩ = false := fun o => ((pcell HPr.out).2 _ _ hl0).trans (frozen_of_row X _ o _ _ H0.out)
      have f1 : ∀ o, wr.frozen? ⟨w.heap.size + 1, o, none⟩ = false := fun o => ((pcell HPr.out).2 _ _ hl1).trans (frozen_of_row X _ o _ _ H1.out)
      have HO := Lib.hid hown
      have HA := Lib.hid hall
      clear hown hall
      go_wp2_with fail
      have hd : Diff (fun k => k = w.heap.size ∨ k = w.heap.size + 1) wr (((((wr.setCell ⟨w.heap.size, 3, none⟩ (.slice p' b.n c')).setCell ⟨w.heap.size + 1, 0, none⟩ (.int .i64 b.lo)).setCell ⟨w.heap.size + 1, 1, none⟩ (.int .i64 b.hi)).setCell ⟨w.heap.size + 1, 2, none⟩ (.int .i64 b.lots)).setCell ⟨w.heap.size + 1, 3, none⟩ (.slice p' b.n c')) := by
        repeat (first | exact Diff.refl _ | refine Diff.setCell ?_ (fun _ => by simp) _)
      refine bodyPost_ret (v := bookV b p' c') (by simp [results, Tryd.results21, go_sem, x0, x1, x2, x3]) rfl ⟨p', c', rfl, ?_, (HP.out.trans HPr.out).trans' hd (fun k hk e => by omega)⟩
      intro j hj
      obtain ⟨q, c, h1, h2⟩ := HA.out j hj
      rcases HO.out.2 with ⟨e1, e2⟩ | ⟨g, c1, cur, e1, h3, h4, -⟩
      · omega
      · cases e1
        have hg : g < wr.heap.size := (Array.getElem?_eq_some_iff.1 h4).1
        refine ⟨g, 0, q, c, rfl, Nat.lt_of_lt_of_le hg hd.size, ?_, (h2.step (av' := none) hd.size (fun b hb hB _ => ⟨hd.block b hb (by omega), by simp⟩)).sit⟩
        rw [Nat.zero_add, hd.cell (p := ⟨g, j, none⟩) hg (show ¬ (g = _ ∨ g = _) by omega), World.ownsRow.cellAt HO.out j (by omega)]
        exact h1
end Go.Proofs.YtmedkmbfggphdaaDoor
