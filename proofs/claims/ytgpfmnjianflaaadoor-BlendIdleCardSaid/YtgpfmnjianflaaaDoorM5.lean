/- Walk of below of package blend: the lines that lie below the lots. Walk of CheckLine of package blend. Walks of the order of lines and of best for lines. Walk of proof of package blend. Walks of Line and Floor of package blend. -/
import Derived.Test.YtgpfmnjianflaaaDoorM4
import Derived.WalkMore
import Derived.Lib.AppendZeros
set_option linter.unusedSimpArgs false
set_option linter.unusedVariables false
set_option linter.constructorNameAsVariable false
namespace Go.Proofs.YtgpfmnjianflaaaDoor
open Go.RowKit

abbrev Bd := Int × Int × Int
def nthB (l : List Bd) (k : Nat) : Bd := l.getD k (1, 0, 0)
def valsB : List Bd → List Value
  | [] => []
  | b :: l => .int .i64 b.1 :: .int .i64 b.2.1 :: .int .i64 b.2.2 :: valsB l
theorem valsB_length : ∀ l : List Bd, (valsB l).length = l.length * 3
  | [] => rfl
  | b :: l => by simp only [valsB, List.length_cons, valsB_length l]; omega
theorem valsB_append : ∀ a b : List Bd, valsB (a ++ b) = valsB a ++ valsB b
  | [], _ => rfl
  | x :: a, b => by simp [valsB, valsB_append a b]
theorem valsB_get : ∀ (l : List Bd) (k : Nat), k < l.length → (valsB l)[k * 3]? = some (.int .i64 (nthB l k).1) ∧ (valsB l)[k * 3 + 1]? = some (.int .i64 (nthB l k).2.1) ∧ (valsB l)[k * 3 + 2]? = some (.int .i64 (nthB l k).2.2)
  | b :: l, 0, _ => ⟨rfl, rfl, rfl⟩
  | b :: l, k + 1, h => by
    have ih := valsB_get l k (by simpa using h)
    have e0 : (k + 1) * 3 = k * 3 + 1 + 1 + 1 := by omega
    have e1 : (k + 1) * 3 + 1 = (k * 3 + 1) + 1 + 1 + 1 := by omega
    have e2 : (k + 1) * 3 + 2 = (k * 3 + 2) + 1 + 1 + 1 := by omega
    rw [e2, e1, e0]
    exact ih
/-- A slice of lines in memory. -/
def BndAt (w : World) (q : Option Addr) (l : List Bd) : Prop := ∀ k, k < l.length → ∃ b o, q = some ⟨b, o, none⟩ ∧ b < w.heap.size ∧
  w.cell? ⟨b, o + k * 3, none⟩ = some (.int .i64 (nthB l k).1) ∧ w.cell? ⟨b, o + k * 3 + 1, none⟩ = some (.int .i64 (nthB l k).2.1) ∧ w.cell? ⟨b, o + k * 3 + 2, none⟩ = some (.int .i64 (nthB l k).2.2)
theorem BndAt.to {w w' : World} {q : Option Addr} {l : List Bd} (h : BndAt w q l) (hp : Pure w w') : BndAt w' q l := fun k hk => by
  obtain ⟨b, o, e, hb, h1, h2, h3⟩ := h k hk
  exact ⟨b, o, e, Nat.lt_of_lt_of_le hb hp.size, ((pcell hp).1 _ _ hb).trans h1, ((pcell hp).1 _ _ hb).trans h2, ((pcell hp).1 _ _ hb).trans h3⟩
theorem bnd_own {W : World} {B n : Nat} {u : Value} {l : List Bd} (h : W.ownsRow B 101 3 u n (valsB l)) : ∃ q c, u = .slice q l.length c ∧ BndAt W q l ∧ l.length ≤ c ∧ ∀ a, q = some a → B ≤ a.block := by
  have hn : n = l.length := by have := h.1; rw [valsB_length] at this; omega
  subst hn
  rcases h.2 with ⟨rfl, h0⟩ | ⟨g, c, cur, rfl, hb, hg, h1, h2, h3, h4⟩
  · exact ⟨none, 0, by rw [h0], fun k hk => by omega, by omega, fun a h => by cases h⟩
  · refine ⟨_, c, rfl, fun k hk => ⟨g, 0, rfl, (Array.getElem?_eq_some_iff.1 hg).1, ?_⟩, h1, fun a h => by cases h; exact hb⟩
    have hv := valsB_get l k hk
    have hcell : ∀ j, j < l.length * 3 → W.cell? ⟨g, j, none⟩ = (valsB l)[j]? := fun j hj => by
      rw [cell_of_row W _ _ _ _ _ hg, ← h4, List.getElem?_take_of_lt hj]; simp
    refine ⟨?_, ?_, ?_⟩
    · rw [show 0 + k * 3 = k * 3 by omega, hcell _ (by omega)]; exact hv.1
    · rw [show 0 + k * 3 + 1 = k * 3 + 1 by omega, hcell _ (by omega)]; exact hv.2.1
    · rw [show 0 + k * 3 + 2 = k * 3 + 2 by omega, hcell _ (by omega)]; exact hv.2.2
theorem info101 : (Tryd.prog.info? 101).map (fun i => (i.zero.map fun z => z.cells.size, i.size, i.bytes)) = some (some 3, 3, 24) := by kernel_rfl
/-- One line more behind an own row of lines. -/
theorem push_bound {W : World} {B n : Nat} {u : Value} {xs : List Value} (h : W.ownsRow B 101 3 u n xs) (hn : n ≤ 1000) (hB : B ≤ W.heap.size) (b : Bd) :
    ∃ v' w', (Builtin.append_ #[98, 98] 98 #[u, .slice (some ⟨W.heap.size, 0, none⟩) 1 1]).run Tryd.prog (W.alloc (.cells #[.int .i64 b.1, .int .i64 b.2.1, .int .i64 b.2.2] 101)) = .ok v' w' ∧ w'.ownsRow B 101 3 v' (n + 1) (xs ++ [.int .i64 b.1, .int .i64 b.2.1, .int .i64 b.2.2]) ∧
      Diff (fun k => some k = u.ownBlock) W w' ∧ (v'.ownBlock = u.ownBlock ∨ v'.ownBlock = some (W.heap.size + 1)) := by
  obtain ⟨i9, hi9, hzz⟩ := Option.map_eq_some_iff.1 info101
  simp only [Prod.mk.injEq] at hzz
  obtain ⟨hz9, hsz9, hby9⟩ := hzz
  obtain ⟨z, hz, hzc⟩ := Option.map_eq_some_iff.1 hz9
  obtain ⟨X, hX⟩ : ∃ X : Array Value, #[Value.int .i64 b.1, .int .i64 b.2.1, .int .i64 b.2.2] = X := ⟨_, rfl⟩
  have hown2 : (W.alloc (.cells X 101)).ownsRow B 101 3 u n xs := h.alloc _
  have hW3 : (W.alloc (.cells X 101)).heap[W.heap.size]? = some (.cells X 101 (0, 0)) := World.alloc_heap_new _ _
  rw [hX]
  obtain ⟨v', w', hr2, o2, g2, -, own2⟩ := run_append_own_at (P := Tryd.prog) (W.alloc (.cells X 101)) B 98 98 101 i9 z 3 24 Tryd.underlying98 hi9 hz hsz9 hby9 hzc (by omega) u n xs hown2
    ⟨W.heap.size, 0, none⟩ 1 1 [.int .i64 b.1, .int .i64 b.2.1, .int .i64 b.2.2] rfl (fun j y hj => by
      have hadd : (⟨W.heap.size, 0, none⟩ : Addr).add j = ⟨W.heap.size, j, none⟩ := by unfold Addr.add; split <;> simp_all
      rw [hadd, cell_of_row _ _ _ _ _ _ hW3, ← hX]
      simpa using hj) (by simp [Value.oneCell']) (by simp only [maxLen]; omega) (by omega) (by simp; omega)
  refine ⟨v', w', hr2, o2, ?_, by simpa using own2⟩
  have hsz := g2.size
  rw [World.size_alloc] at hsz
  exact ⟨g2.os, g2.tape, g2.output, by omega, fun k hk ho => (g2.block k (by simp; omega) ho).trans (Below.heap_alloc _ _ _ hk)⟩
/-- A lot lies below a line. -/
def hiB (L : LT) (b : Bd) (k : Nat) : Bool := chB (redN (L.p k) 1) (redD (L.p k) 1) (redN (b.2.1 + b.2.2 * L.s k) b.1) (redD (b.2.1 + b.2.2 * L.s k) b.1)
def lowTo (L : LT) (b : Bd) (n : Nat) : Bool := (List.range n).all fun k => !hiB L b k
theorem lowTo_succ (L : LT) (b : Bd) (n : Nat) : lowTo L b (n + 1) = (lowTo L b n && !hiB L b n) := by simp [lowTo, List.range_succ]
theorem lowTo_false {L : LT} {b : Bd} {n k : Nat} (hk : k < n) (h : hiB L b k = true) : lowTo L b n = false := by
  rw [lowTo, List.all_eq_false]
  exact ⟨k, List.mem_range.2 hk, by simp [h]⟩
def keptB (L : LT) (l : List Bd) : List Bd := l.filter fun b => lowTo L b L.n
def OkB (b : Bd) : Prop := (1 ≤ b.1 ∧ b.1 ≤ 100) ∧ (-1048576 ≤ b.2.1 ∧ b.2.1 ≤ 1048576) ∧ -1048576 ≤ b.2.2 ∧ b.2.2 ≤ 1048576
theorem red_bnd {a b A B : Int} (hb : 0 < b) (ha : -A ≤ a ∧ a ≤ A) (hB : b ≤ B) : (-A ≤ redN a b ∧ redN a b ≤ A) ∧ 0 < redD a b ∧ redD a b ≤ B := by
  have h := red_le a hb
  have hp := redD_pos (a := a) hb
  have h1 : (a.natAbs : Int) ≤ A := by omega
  omega
theorem keptB_take (L : LT) (l : List Bd) (j : Nat) (hj : j < l.length) : keptB L (l.take (j + 1)) = if lowTo L (nthB l j) L.n = true then keptB L (l.take j) ++ [nthB l j] else keptB L (l.take j) := by
  have e : l.take (j + 1) = l.take j ++ [nthB l j] := by
    rw [List.take_add_one]; simp [nthB, hj]
  rw [keptB, e, List.filter_append]
  by_cases h : lowTo L (nthB l j) L.n = true
  · simp [h, keptB]
  · simp [h, keptB]

set_option maxRecDepth 20000 in
set_option maxHeartbeats 4000000 in
theorem below_any (w : World) (L : LT) (p q : Option Addr) (cap c : Nat) (l : List Bd) (hok : L.Ok) (hl : LotsAt w.heap.size w p L) (hq : BndAt w q l) (hlen : l.length ≤ 100) (hb : ∀ k, k < l.length → OkB (nthB l k)) :
    Calls Tryd.prog 76 #[.agg #[.slice p L.n cap], .slice q l.length c] w fun e w' => (∃ q' c', e = .returned (.slice q' (keptB L l).length c') ∧ BndAt w' q' (keptB L l) ∧ (keptB L l).length ≤ c' ∧ ∀ a, q' = some a → w.heap.size ≤ a.block) ∧ Pure w w' := by
  have hmx : Tryd.prog.follows .mixedOrders = true := by kernel_rfl
  have hn1 := hok.n0
  have hn8 := hok.n8
  obtain ⟨bl, ol, rfl, hbl, -, -⟩ := hl 0 (by omega)
  obtain ⟨m, hm⟩ : ∃ m, l.length = m := ⟨_, rfl⟩
  have HM := Lib.hid hm
  have HOK := Lib.hid hok
  have HL := Lib.hid hl
  have HQ := Lib.hid hq
  have HB := Lib.hid hb
  rw [hm] at hlen ⊢
  clear hm hok hl hq hb
  go_enter Tryd.func76, Tryd.ntmps76
  go_wp2
  apply wp_scope_straight
  go_wp2
  refine wp_label ?_
  go_wp2
  obtain ⟨X, hX⟩ : ∃ V : World, w.alloc (.cells #[.slice (some { block := bl, off := ol }) L.n cap] 87) = V := ⟨_, rfl⟩
  have k0 : Blk w.heap.size 87 #[.slice (some { block := bl, off := ol }) L.n cap] X := by rw [← hX]; exact Blk.new _ _ _
  have hP : Pure w X := by rw [← hX]; exact (Diff.refl _).alloc _
  rw [hX]
  clear hX
  have K0 := Lib.hid k0
  have HP := Lib.hid hP
  clear k0 hP
  go_loopw [5, 12] (fun v i wr => ∃ k : Nat, k ≤ m ∧ i = .int .i64 k ∧ Hid (wr.ownsRow (w.heap.size + 1) 101 3 v (keptB L (l.take k)).length (valsB (keptB L (l.take k)))) ∧ Hid (Pure w wr) ∧ Hid (Blk w.heap.size 87 #[.slice (some { block := bl, off := ol }) L.n cap] wr)) (fun _ i _ => m - (intOf i).toNat)
  case atStart => exact ⟨0, Nat.zero_le _, rfl, by simp only [List.take_zero]; exact World.ownsRow_nil _ _ _ _, HP.out, K0.out⟩
  case round =>
    obtain ⟨k, hk, rfl, HO, HPR, HKR⟩ := hrel
    by_cases hlt : k < m
    · obtain ⟨b, o, hqa, hbq, hc1, hc2, hc3⟩ := HQ.out k (by rw [HM.out]; exact hlt)
      subst hqa
      have hki : (k : Int) < (m : Int) := by omega
      have hbk := HB.out k (by rw [HM.out]; exact hlt)
      obtain ⟨⟨bd, bx, by'⟩, hbv⟩ : ∃ x : Bd, nthB l k = x := ⟨_, rfl⟩
      have HBV := Lib.hid hbv
      rw [hbv] at hc1 hc2 hc3 hbk
      have HBK := Lib.hid hbk
      have d1 := ((pcell HPR.out).1 _ _ hbq).trans hc1
      have d2 := ((pcell HPR.out).1 _ _ hbq).trans hc2
      have d3 := ((pcell HPR.out).1 _ _ hbq).trans hc3
      have d0 := HKR.out.at 0
      have ld := HKR.out.lt
      dsimp only at d1 d2 d3
      clear hc1 hc2 hc3 hbv hbk
      go_wp2_with fail
      obtain ⟨Z, hZ⟩ : ∃ V : World, wr.alloc (.cells #[.int .i64 bd, .int .i64 bx, .int .i64 by'] 101) = V := ⟨_, rfl⟩
      have kz : Blk wr.heap.size 101 #[.int .i64 bd, .int .i64 bx, .int .i64 by'] Z := by rw [← hZ]; exact Blk.new _ _ _
      have hpz : Pure wr Z := by rw [← hZ]; exact (Diff.refl _).alloc _
      rw [hZ]
      clear hZ d1 d2 d3 d0 ld
      obtain ⟨GZ, hGZ⟩ : ∃ G, wr.heap.size = G := ⟨_, rfl⟩
      rw [hGZ] at kz ⊢
      have KZ := Lib.hid kz
      have HPZ := Lib.hid hpz
      clear kz hpz hGZ
      go_loopw [19] (fun i wr2 => ∃ j : Nat, j ≤ L.n ∧ i = .int .i64 j ∧ Hid (lowTo L (bd, bx, by') j = true) ∧ Hid (Pure Z wr2)) (fun i _ => L.n - (intOf i).toNat)
      case atStart => exact ⟨0, Nat.zero_le _, rfl, rfl, Diff.refl _⟩
      case round =>
        obtain ⟨j, hj, rfl, HLO, HPJ⟩ := hrel
        rename World => wj
        by_cases hjl : j < L.n
        · obtain ⟨bl', ol', hpl, -, hs1, hs2⟩ := HL.out j hjl
          cases hpl
          have hpj : Pure w wj := HPR.out.trans (HPZ.out.trans HPJ.out)
          have d1 := ((pcell hpj).1 _ _ hbl).trans hs1
          have d2 := ((pcell hpj).1 _ _ hbl).trans hs2
          have hji : (j : Int) < (L.n : Int) := by omega
          clear hs1 hs2 hpj
          go_wp2_with fail
          obtain ⟨V, hV⟩ : ∃ V : World, wj.alloc (.cells #[.int .i64 (L.s j), .int .i64 (L.p j)] 71) = V := ⟨_, rfl⟩
          have kv : Blk wj.heap.size 71 #[.int .i64 (L.s j), .int .i64 (L.p j)] V := by rw [← hV]; exact Blk.new _ _ _
          have hpv : Pure wj V := by rw [← hV]; exact (Diff.refl _).alloc _
          rw [hV]
          clear hV d1 d2
          obtain ⟨GL, hGL⟩ : ∃ G, wj.heap.size = G := ⟨_, rfl⟩
          rw [hGL] at kv ⊢
          have HPV := Lib.hid hpv
          have kz2 := KZ.out.to (HPJ.out.trans hpv)
          have g0 := kv.at 0
          have g1 := kv.at 1
          have g2 := kz2.at 0
          have g3 := kz2.at 1
          have g4 := kz2.at 2
          have lv := kv.lt
          have lz := kz2.lt
          clear kz2 hpv kv hGL
          have hs0 := HOK.out.s0 j hjl
          have hs1 := HOK.out.s1 j hjl
          have hp0 := HOK.out.p0 j hjl
          have hp1 := HOK.out.p1 j hjl
          obtain ⟨⟨o1, o2⟩, ⟨o3, o4⟩, o5, o6⟩ := HBK.out
          dsimp only at o1 o2 o3 o4 o5 o6
          have m1 := mul_bnd (a := by') (b := L.s j) 1048576 100 (by omega) (by omega) (by omega) (by omega)
          have r1 := red_bnd (a := L.p j) (b := 1) (A := 1000) (B := 1) (by omega) (by omega) (by omega)
          have r2 := red_bnd (a := bx + by' * L.s j) (b := bd) (A := 106000000) (B := 100) (by omega) (by omega) (by omega)
          have HR1 : Hid ((-1000000000 ≤ redN (L.p j) 1 ∧ redN (L.p j) 1 ≤ 1000000000) ∧ -1000000000 ≤ redD (L.p j) 1 ∧ redD (L.p j) 1 ≤ 1000000000) := ⟨by omega, by omega⟩
          have HR2 : Hid ((-1000000000 ≤ redN (bx + by' * L.s j) bd ∧ redN (bx + by' * L.s j) bd ≤ 1000000000) ∧ -1000000000 ≤ redD (bx + by' * L.s j) bd ∧ redD (bx + by' * L.s j) bd ≤ 1000000000) := ⟨by omega, by omega⟩
          have HA1 : Hid (-1000000000000 ≤ L.p j ∧ L.p j ≤ 1000000000000) := ⟨by omega, by omega⟩
          have HA3 : Hid ((0 : Int) < 1 ∧ (1 : Int) ≤ 1000000000000) := ⟨by omega, by omega⟩
          have HA2 : Hid ((0 < bd ∧ bd ≤ 100) ∧ (-1048576 ≤ bx ∧ bx ≤ 1048576) ∧ (-1048576 ≤ by' ∧ by' ≤ 1048576) ∧ 0 ≤ L.s j ∧ L.s j ≤ 100) := ⟨⟨by omega, by omega⟩, ⟨o3, o4⟩, ⟨o5, o6⟩, hs0, hs1⟩
          clear m1 r1 r2 o1 o2 o3 o4 o5 o6 hs0 hs1 hp0 hp1
          have hp0 : Hid (Pure V V.drew) := (Diff.refl V).drew
          have KEY : Hid (∀ w', Pure V w' → w'.cell? ⟨GL, 0, none⟩ = some (.int .i64 (L.s j)) ∧ w'.cell? ⟨GL, 1, none⟩ = some (.int .i64 (L.p j)) ∧ w'.cell? ⟨GZ, 0, none⟩ = some (.int .i64 bd) ∧ w'.cell? ⟨GZ, 1, none⟩ = some (.int .i64 bx) ∧ w'.cell? ⟨GZ, 2, none⟩ = some (.int .i64 by') ∧ Hid (Pure V w')) := fun w' hp => ⟨((pcell hp).1 _ _ lv).trans g0, ((pcell hp).1 _ _ lv).trans g1, ((pcell hp).1 _ _ lz).trans g2, ((pcell hp).1 _ _ lz).trans g3, ((pcell hp).1 _ _ lz).trans g4, hp⟩
          go_region_held3 (fun w' => w'.cell? ⟨GL, 0, none⟩ = some (.int .i64 (L.s j)) ∧ w'.cell? ⟨GL, 1, none⟩ = some (.int .i64 (L.p j)) ∧ w'.cell? ⟨GZ, 0, none⟩ = some (.int .i64 bd) ∧ w'.cell? ⟨GZ, 1, none⟩ = some (.int .i64 bx) ∧ w'.cell? ⟨GZ, 2, none⟩ = some (.int .i64 by') ∧ Hid (Pure V w'))
            (exact KEY.out _ (by first | exact hp0.out | exact hp0.out.trans hp6 | exact (hp0.out.trans hp6).trans hp7 | exact ((hp0.out.trans hp6).trans hp7).trans hp8))
            (first | (go_at_call 62; refine Calls.mono (ratio_any _ (L.p j) 1 HA1.out HA3.out) ?_; rintro e w6 ⟨rfl, hp6⟩) | (go_at_call 77; refine Calls.mono (at_any _ bd bx by' (L.s j) HA2.out.1 HA2.out.2.1 HA2.out.2.2.1 HA2.out.2.2.2) ?_; rintro e w7 ⟨rfl, hp7⟩) | (go_at_call 73; refine Calls.mono (cheaper_any _ _ _ _ _ HR1.out.1 HR1.out.2 HR2.out.1 HR2.out.2) ?_; rintro e w8 ⟨rfl, hp8⟩))
          rename_i hHeld
          obtain ⟨-, -, -, -, -, hp⟩ := hHeld
          clear KEY hp0
          have HPE : Hid (Pure wj w8) := HPV.out.trans hp.out
          obtain ⟨bb, hbb⟩ : ∃ bb, chB (redN (L.p j) 1) (redD (L.p j) 1) (redN (bx + by' * L.s j) bd) (redD (bx + by' * L.s j) bd) = bb := ⟨_, rfl⟩
          have hv : hiB L (bd, bx, by') j = bb := hbb
          rw [hbb]
          clear hbb
          cases bb with
          | true =>
            have HF : Hid (lowTo L (bd, bx, by') L.n = false) := lowTo_false hjl hv
            clear hv hp hp6 hp7 hp8
            go_wp2_with fail
            go_roundw
            case rel =>
              have e := keptB_take L l k (by rw [HM.out]; exact hlt)
              rw [HBV.out, if_neg (by rw [HF.out]; simp)] at e
              have hpa : Pure wr w8 := HPZ.out.trans (HPJ.out.trans HPE.out)
              refine ⟨k + 1, by omega, by go_num, ?_, HPR.out.trans hpa, HKR.out.to hpa⟩
              show World.ownsRow _ _ _ _ _ _ _
              rw [e]; exact own_pure HO.out hpa
            case measure => simp [intOf]; omega
          | false =>
            have HS : Hid (lowTo L (bd, bx, by') (j + 1) = true) := by show _ = true; rw [lowTo_succ, HLO.out, hv]; rfl
            clear hv hp hp6 hp7 hp8
            go_wp2_with fail
            go_roundw
            case rel => exact ⟨j + 1, by omega, by go_num, HS.out, HPJ.out.trans HPE.out⟩
            case measure => simp [intOf]; omega
        · obtain rfl : j = L.n := by omega
          have kz2 := KZ.out.to HPJ.out
          have g2 := kz2.at 0
          have g3 := kz2.at 1
          have g4 := kz2.at 2
          have lz := kz2.lt
          have hown : wj.ownsRow (w.heap.size + 1) 101 3 u5 (keptB L (l.take k)).length (valsB (keptB L (l.take k))) := own_pure HO.out (HPZ.out.trans HPJ.out)
          have hkl : (keptB L (l.take k)).length ≤ 1000 := Nat.le_trans (List.length_filter_le _ _) (by rw [List.length_take]; omega)
          obtain ⟨v', w', hr, ho', hd', hob⟩ := push_bound hown hkl (by have := HPR.out.size; have := HPZ.out.size; have := HPJ.out.size; have := HKR.out.lt; omega) (bd, bx, by')
          dsimp only at hr
          have HO' := Lib.hid ho'
          have HD' := Lib.hid hd'
          have HOWN := Lib.hid hown
          clear ho' hd' hob hown kz2
          go_wp2_with (at_builtin; refine Lib.wpList_append_run _ rfl _ _ _ _ rfl _ _ rfl rfl _ _ hr ?_)
          go_roundw
          case rel =>
            refine ⟨k + 1, by omega, by go_num, ?_, ?_, ?_⟩
            · have e := keptB_take L l k (by rw [HM.out]; exact hlt)
              rw [HBV.out, if_pos HLO.out] at e
              show World.ownsRow _ _ _ _ _ _ _
              rw [e, List.length_append, valsB_append]
              exact HO'.out
            · exact ((HPR.out.trans HPZ.out).trans HPJ.out).trans' HD'.out (fun x hx hh => by have := (HOWN.out.lt x hh.symm).1; omega)
            · exact (HKR.out.to (HPZ.out.trans HPJ.out)).diff HD'.out (fun hh => by have := (HOWN.out.lt _ hh.symm).1; omega)
          case measure => simp [intOf]; omega
    · obtain rfl : k = m := by omega
      have HE : Hid (keptB L (l.take k) = keptB L l) := by show _ = _; rw [← HM.out, List.take_length]
      rw [HE.out] at HO
      obtain ⟨q', c', rfl, hbn, hlc, hbs⟩ := bnd_own HO.out
      have HBN := Lib.hid hbn
      have HLC := Lib.hid hlc
      have HBS := Lib.hid hbs
      clear hbn hlc hbs
      go_wp2
      simp only [Exit.noGoto]
      exact bodyPost_ret (v := .slice q' (keptB L l).length c') (by simp [results, Tryd.results76, go_sem]) rfl ⟨⟨q', c', rfl, HBN.out, HLC.out, fun a h => Nat.le_trans (Nat.le_succ _) (HBS.out a h)⟩, HPR.out⟩
end Go.Proofs.YtgpfmnjianflaaaDoor
namespace Go.Proofs.YtgpfmnjianflaaaDoor
open Go.RowKit

theorem lineB_ok {d x y : Int} : lineB d x y = true ↔ OkB (d, x, y) := by
  unfold lineB wIn OkB; simp
theorem keptB_one (L : LT) (b : Bd) : keptB L [b] = if lowTo L b L.n = true then [b] else [] := by
  unfold keptB
  by_cases h : lowTo L b L.n = true <;> simp [h]
def lineE (L : LT) (b : Bd) (t : Int) : Int := if sharpE L t ≠ 0 then sharpE L t else if lineB b.1 b.2.1 b.2.2 = false then 3 else if lowTo L b L.n = false then 16 else 0
def lineP (L : LT) (b : Bd) (t : Int) : Int × Int := if lineE L b t = 0 then (redN (b.2.1 + b.2.2 * t) b.1, redD (b.2.1 + b.2.2 * t) b.1) else pr0
set_option maxRecDepth 20000 in
set_option maxHeartbeats 4000000 in
theorem CheckLine_any (w : World) (L : LT) (p : Option Addr) (cap : Nat) (d x y t : Int) (hn : L.n ≤ 1000) (hl : LotsAt w.heap.size w p L) (hg : Gl w) :
    Calls Tryd.prog 33 #[.slice p L.n cap, .agg #[.int .i64 d, .int .i64 x, .int .i64 y], .int .i64 t] w fun e w' => e = .returned (.tuple #[.agg #[.int .i64 (lineP L (d, x, y) t).1, .int .i64 (lineP L (d, x, y) t).2], .int .i64 (lineE L (d, x, y) t)]) ∧ Pure w w' := by
  have hmx : Tryd.prog.follows .mixedOrders = true := by kernel_rfl
  have HG := Lib.hid hg
  have HL := Lib.hid hl
  clear hl hg
  go_enter Tryd.func33, Tryd.ntmps33
  go_wp2_with fail
  obtain ⟨X, hX⟩ : ∃ V : World, (w.alloc (.cells #[.int .i64 d, .int .i64 x, .int .i64 y] 45)).alloc (.cells #[.int .i64 0, .int .i64 0] 29) = V := ⟨_, rfl⟩
  have k1 : Blk w.heap.size 45 #[.int .i64 d, .int .i64 x, .int .i64 y] X := by rw [← hX]; exact (Blk.new _ _ _).alloc _
  have k0 : Blk (w.heap.size + 1) 29 #[.int .i64 0, .int .i64 0] X := by
    rw [← hX]
    have := Blk.new (w.alloc (.cells #[.int .i64 d, .int .i64 x, .int .i64 y] 45)) 29 #[.int .i64 0, .int .i64 0]
    rwa [World.size_alloc] at this
  have hP : Pure w X := by rw [← hX]; exact ((Diff.refl _).alloc _).alloc _
  rw [hX]
  clear hX
  obtain ⟨G, hG⟩ : ∃ G, w.heap.size + 1 = G := ⟨_, rfl⟩
  have HGG : Hid (w.heap.size + 1 = G) := hG
  rw [hG] at k0 ⊢
  clear hG
  refine (checkSharp_any X L p cap t hn (HL.out.to hP) (HG.out.to hP)).mono ?_
  rintro e w1 ⟨rfl, hp1⟩
  have HP1 := Lib.hid (hP.trans hp1)
  have K1 := Lib.hid (k0.to hp1)
  have B1 := Lib.hid (k1.to hp1)
  clear hP hp1 k0 k1
  obtain ⟨c, hc⟩ : ∃ c, sharpE L t = c := ⟨_, rfl⟩
  have HC := Lib.hid hc
  rw [hc]
  clear hc
  have HE0 : ∀ e : Int, e ≠ 0 → lineE L (d, x, y) t = e → Hid (lineE L (d, x, y) t = e ∧ lineP L (d, x, y) t = pr0) := fun e h0 h => ⟨h, if_neg (by rw [h]; exact h0)⟩
  by_cases h0 : c = 0
  · subst h0
    obtain ⟨hok, ht0, ht1⟩ := sharpE_ok.1 HC.out
    have HOK := Lib.hid hok
    clear hok
    have b0 := B1.out.at 0
    have b1 := B1.out.at 1
    have b2 := B1.out.at 2
    have bl := B1.out.lt
    go_wp2_with fail
    refine (valid_any w1 d x y (HG.out.to HP1.out)).mono ?_
    rintro e w2 ⟨rfl, hp2⟩
    have HP2 := Lib.hid (HP1.out.trans hp2)
    have K2 := Lib.hid (K1.out.to hp2)
    have B2 := Lib.hid (B1.out.to hp2)
    clear hp2 b0 b1 b2 bl
    cases hv : lineB d x y with
    | false =>
      have HE := HE0 3 (by decide) (by unfold lineE; rw [if_neg (by rw [HC.out]; simp), if_pos hv])
      clear hv HE0
      have c0 := K2.out.at 0
      have c1 := K2.out.at 1
      have fz := fun o => K2.out.fz o
      have l0 := K2.out.lt
      go_wp2
      rw [HE.out.1, HE.out.2]
      have hgl : w.heap.size ≤ G := by have := HGG.out; omega
      have z := K2.out.set2 (Value.int IntKind.i64 0) (Value.int IntKind.i64 0)
      have HPZ := HP2.out.set2 (g := G) (by omega) (Value.int IntKind.i64 0) (Value.int IntKind.i64 0)
      obtain ⟨Y, hY⟩ : ∃ Y, (w2.setCell { block := G, off := 0 } (Value.int IntKind.i64 0)).setCell { block := G, off := 1 } (Value.int IntKind.i64 0) = Y := ⟨_, rfl⟩
      first | rw [hY] at z HPZ HR9 ⊢ | rw [hY] at z HPZ ⊢
      clear hY
      exact bodyPost_ret (v := .tuple #[.agg #[.int .i64 0, .int .i64 0], .int .i64 3]) (by simp [results, Tryd.results33, go_sem, z.at 0, z.at 1]) rfl ⟨rfl, HPZ⟩
    | true =>
      have HOB : Hid (OkB (d, x, y)) := lineB_ok.1 hv
      have HV := Lib.hid hv
      have b0 := B2.out.at 0
      have b1 := B2.out.at 1
      have b2 := B2.out.at 2
      have bl := B2.out.lt
      clear hv
      go_wp2_with fail
      obtain ⟨V, hV⟩ : ∃ V : World, w2.alloc (.cells #[.int .i64 d, .int .i64 x, .int .i64 y] 101) = V := ⟨_, rfl⟩
      have hpv : Pure w2 V := by rw [← hV]; exact (Diff.refl _).alloc _
      have hbn : BndAt V (some ⟨w2.heap.size, 0, none⟩) [(d, x, y)] := by
        rw [← hV]
        have kv := Blk.new w2 101 #[.int .i64 d, .int .i64 x, .int .i64 y]
        intro k hk
        obtain rfl : k = 0 := by simpa using hk
        exact ⟨w2.heap.size, 0, rfl, kv.lt, kv.at 0, kv.at 1, kv.at 2⟩
      rw [hV]
      clear hV
      have HPV := Lib.hid (HP2.out.trans hpv)
      have KV := Lib.hid (K2.out.to hpv)
      have HBN := Lib.hid hbn
      clear hpv hbn b0 b1 b2 bl
      have hok1 : ∀ k, k < [((d, x, y) : Bd)].length → OkB (nthB [(d, x, y)] k) := fun k hk => by
        have hk0 : k = 0 := by simpa using hk
        subst hk0
        exact HOB.out
      refine (below_any V L p (some ⟨w2.heap.size, 0, none⟩) cap 1 [(d, x, y)] HOK.out (HL.out.to HPV.out) HBN.out (by simp) hok1).mono ?_
      rintro e w3 ⟨⟨q', c', rfl, hb3, -⟩, hp3⟩
      have HP3 := Lib.hid (HPV.out.trans hp3)
      have K3 := Lib.hid (KV.out.to hp3)
      have HK := keptB_one L (d, x, y)
      cases hw : lowTo L (d, x, y) L.n with
      | false =>
        rw [hw] at HK
        have HK' : keptB L [(d, x, y)] = [] := by simpa using HK
        rw [HK'] at hb3 ⊢
        have HE := HE0 16 (by decide) (by unfold lineE; rw [if_neg (by rw [HC.out]; simp), if_neg (by simp [HV.out]), if_pos hw])
        clear HK HK' hw hb3 hp3 HE0
        have c0 := K3.out.at 0
        have c1 := K3.out.at 1
        have fz := fun o => K3.out.fz o
        have l0 := K3.out.lt
        simp only [List.length_nil]
        go_wp2
        rw [HE.out.1, HE.out.2]
        have hgl : w.heap.size ≤ G := by have := HGG.out; omega
        have z := K3.out.set2 (Value.int IntKind.i64 0) (Value.int IntKind.i64 0)
        have HPZ := HP3.out.set2 (g := G) (by omega) (Value.int IntKind.i64 0) (Value.int IntKind.i64 0)
        obtain ⟨Y, hY⟩ : ∃ Y, (w3.setCell { block := G, off := 0 } (Value.int IntKind.i64 0)).setCell { block := G, off := 1 } (Value.int IntKind.i64 0) = Y := ⟨_, rfl⟩
        first | rw [hY] at z HPZ HR9 ⊢ | rw [hY] at z HPZ ⊢
        clear hY
        exact bodyPost_ret (v := .tuple #[.agg #[.int .i64 0, .int .i64 0], .int .i64 16]) (by simp [results, Tryd.results33, go_sem, z.at 0, z.at 1]) rfl ⟨rfl, HPZ⟩
      | true =>
        rw [hw] at HK
        have HK' : keptB L [(d, x, y)] = [(d, x, y)] := by simpa using HK
        rw [HK'] at hb3 ⊢
        have HE : Hid (lineE L (d, x, y) t = 0 ∧ lineP L (d, x, y) t = (redN (x + y * t) d, redD (x + y * t) d)) := by
          have h : lineE L (d, x, y) t = 0 := by unfold lineE; rw [if_neg (by rw [HC.out]; simp), if_neg (by simp [HV.out]), if_neg (by simp [hw])]
          exact ⟨h, if_pos h⟩
        obtain ⟨bq, oq, hqa, hbq, d1, d2, d3⟩ := hb3 0 (by simp)
        subst hqa
        have e1 : w3.cell? ⟨bq, oq, none⟩ = some (.int .i64 d) := d1
        have e2 : w3.cell? ⟨bq, oq + 1, none⟩ = some (.int .i64 x) := d2
        have e3 : w3.cell? ⟨bq, oq + 2, none⟩ = some (.int .i64 y) := d3
        clear HK HK' hw hb3 hp3 HE0 d1 d2 d3
        simp only [List.length_cons, List.length_nil, Nat.zero_add]
        go_wp2_with fail
        refine (at_any w3 d x y t ⟨by have := HOB.out.1.1; dsimp only at this; omega, HOB.out.1.2⟩ HOB.out.2.1 HOB.out.2.2 ⟨ht0, ht1⟩).mono ?_
        rintro e w4 ⟨rfl, hp4⟩
        have HP4 := Lib.hid (HP3.out.trans hp4)
        have K4 := Lib.hid (K3.out.to hp4)
        obtain ⟨u1, hu1⟩ : ∃ u, redN (x + y * t) d = u := ⟨_, rfl⟩
        obtain ⟨u2, hu2⟩ : ∃ u, redD (x + y * t) d = u := ⟨_, rfl⟩
        rw [hu1, hu2] at HE ⊢
        clear hu1 hu2 hp4 e1 e2 e3
        have c0 := K4.out.at 0
        have c1 := K4.out.at 1
        have fz := fun o => K4.out.fz o
        have l0 := K4.out.lt
        go_wp2
        rw [HE.out.1, HE.out.2]
        have hgl : w.heap.size ≤ G := by have := HGG.out; omega
        have z := K4.out.set2 (Value.int IntKind.i64 u1) (Value.int IntKind.i64 u2)
        have HPZ := HP4.out.set2 (g := G) (by omega) (Value.int IntKind.i64 u1) (Value.int IntKind.i64 u2)
        obtain ⟨Y, hY⟩ : ∃ Y, (w4.setCell { block := G, off := 0 } (Value.int IntKind.i64 u1)).setCell { block := G, off := 1 } (Value.int IntKind.i64 u2) = Y := ⟨_, rfl⟩
        first | rw [hY] at z HPZ HR9 ⊢ | rw [hY] at z HPZ ⊢
        clear hY
        exact bodyPost_ret (v := .tuple #[.agg #[.int .i64 u1, .int .i64 u2], .int .i64 0]) (by simp [results, Tryd.results33, go_sem, z.at 0, z.at 1]) rfl ⟨rfl, HPZ⟩
  · have hb : (c != 0) = true := by simpa using h0
    have HE := HE0 c h0 (by unfold lineE; rw [if_pos (by rw [HC.out]; exact h0)]; exact HC.out)
    have c0 := K1.out.at 0
    have c1 := K1.out.at 1
    have fz := fun o => K1.out.fz o
    have l0 := K1.out.lt
    clear HE0
    go_wp2
    rw [HE.out.1, HE.out.2]
    have hgl : w.heap.size ≤ G := by have := HGG.out; omega
    have z := K1.out.set2 (Value.int IntKind.i64 0) (Value.int IntKind.i64 0)
    have HPZ := HP1.out.set2 (g := G) (by omega) (Value.int IntKind.i64 0) (Value.int IntKind.i64 0)
    obtain ⟨Y, hY⟩ : ∃ Y, (w1.setCell { block := G, off := 0 } (Value.int IntKind.i64 0)).setCell { block := G, off := 1 } (Value.int IntKind.i64 0) = Y := ⟨_, rfl⟩
    first | rw [hY] at z HPZ HR9 ⊢ | rw [hY] at z HPZ ⊢
    clear hY
    exact bodyPost_ret (v := .tuple #[.agg #[.int .i64 0, .int .i64 0], .int .i64 c]) (by simp [results, Tryd.results33, go_sem, z.at 0, z.at 1]) rfl ⟨rfl, HPZ⟩
end Go.Proofs.YtgpfmnjianflaaaDoor
namespace Go.Proofs.YtgpfmnjianflaaaDoor
open Go.RowKit

def atV (b : Bd) (t : Int) : Int × Int := (redN (b.2.1 + b.2.2 * t) b.1, redD (b.2.1 + b.2.2 * t) b.1)
/-- The second line is cheaper at a sharpness: the first one is higher. -/
def hgB (t : Int) (one two : Bd) : Bool := chB (atV two t).1 (atV two t).2 (atV one t).1 (atV one t).2
def bestB (t : Int) (first : Bd) (f : Nat → Bd) : Nat → Bd
  | 0 => first
  | k + 1 => if hgB t (f k) (bestB t first f k) = true then f k else bestB t first f k
theorem bestB_ok {t : Int} {first : Bd} {f : Nat → Bd} {n : Nat} (h0 : OkB first) (hf : ∀ k, k < n → OkB (f k)) : ∀ k, k ≤ n → OkB (bestB t first f k)
  | 0, _ => h0
  | k + 1, hk => by
    unfold bestB
    split
    · exact hf k (by omega)
    · exact bestB_ok h0 hf k (by omega)
theorem atV_bnd {b : Bd} (h : OkB b) {t : Int} (ht : 0 ≤ t ∧ t ≤ 100) : (-1000000000 ≤ (atV b t).1 ∧ (atV b t).1 ≤ 1000000000) ∧ -1000000000 ≤ (atV b t).2 ∧ (atV b t).2 ≤ 1000000000 := by
  obtain ⟨⟨o1, o2⟩, ⟨o3, o4⟩, o5, o6⟩ := h
  have m1 := mul_bnd (a := b.2.2) (b := t) 1048576 100 (by omega) (by omega) (by omega) (by omega)
  have r2 := red_bnd (a := b.2.1 + b.2.2 * t) (b := b.1) (A := 106000000) (B := 100) (by omega) (by omega) (by omega)
  unfold atV
  dsimp only
  omega
set_option maxRecDepth 20000 in
set_option maxHeartbeats 4000000 in
theorem higher_any (w : World) (t : Int) (gt : Nat) (a b : Bd) (ha : OkB a) (hb : OkB b) (ht : 0 ≤ t ∧ t ≤ 100) (hk : Blk gt 2 #[.int .i64 t] w) :
    Calls Tryd.prog 89 #[.agg #[.int .i64 a.1, .int .i64 a.2.1, .int .i64 a.2.2], .agg #[.int .i64 b.1, .int .i64 b.2.1, .int .i64 b.2.2], .pointer (some ⟨gt, 0, none⟩)] w fun e w' => e = .returned (.bool (hgB t a b)) ∧ Pure w w' := by
  have hmx : Tryd.prog.follows .mixedOrders = true := by kernel_rfl
  have HA1 : Hid ((0 < a.1 ∧ a.1 ≤ 100) ∧ OkB a) := ⟨⟨by have := ha.1; omega, ha.1.2⟩, ha⟩
  have HB1 : Hid ((0 < b.1 ∧ b.1 ≤ 100) ∧ OkB b) := ⟨⟨by have := hb.1; omega, hb.1.2⟩, hb⟩
  have HT := Lib.hid ht
  have HVA := Lib.hid (atV_bnd ha ht)
  have HVB := Lib.hid (atV_bnd hb ht)
  obtain ⟨a1, a2, a3⟩ := a
  obtain ⟨b1, b2, b3⟩ := b
  clear ha hb ht
  have HKT := Lib.hid hk
  clear hk
  go_enter Tryd.func89, Tryd.ntmps89
  go_wp2_with fail
  obtain ⟨V, hV⟩ : ∃ V : World, (w.alloc (.cells #[.int .i64 a1, .int .i64 a2, .int .i64 a3] 101)).alloc (.cells #[.int .i64 b1, .int .i64 b2, .int .i64 b3] 101) = V := ⟨_, rfl⟩
  have k3 : Blk w.heap.size 101 #[.int .i64 a1, .int .i64 a2, .int .i64 a3] V := by rw [← hV]; exact (Blk.new _ _ _).alloc _
  have k4 : Blk (w.heap.size + 1) 101 #[.int .i64 b1, .int .i64 b2, .int .i64 b3] V := by
    rw [← hV]
    have := Blk.new (w.alloc (.cells #[.int .i64 a1, .int .i64 a2, .int .i64 a3] 101)) 101 #[.int .i64 b1, .int .i64 b2, .int .i64 b3]
    rwa [World.size_alloc] at this
  have hP : Pure w V := by rw [← hV]; exact ((Diff.refl _).alloc _).alloc _
  rw [hV]
  clear hV
  obtain ⟨g4, hg4⟩ : ∃ G, w.heap.size + 1 = G := ⟨_, rfl⟩
  obtain ⟨g3, hg3⟩ : ∃ G, w.heap.size = G := ⟨_, rfl⟩
  rw [hg4] at k4 ⊢
  rw [hg3] at k3 ⊢
  have kt := HKT.out.to hP
  have c0 := k3.at 0
  have c1 := k3.at 1
  have c2 := k3.at 2
  have c3 := k4.at 0
  have c4 := k4.at 1
  have c5 := k4.at 2
  have ct := kt.at 0
  have l3 := k3.lt
  have l4 := k4.lt
  have lt := kt.lt
  have HP := Lib.hid hP
  clear k3 k4 kt hP hg3 hg4
  have hp0 : Hid (Pure V V.drew) := (Diff.refl V).drew
  have KEY : Hid (∀ w', Pure V w' → w'.cell? ⟨g3, 0, none⟩ = some (.int .i64 a1) ∧ w'.cell? ⟨g3, 1, none⟩ = some (.int .i64 a2) ∧ w'.cell? ⟨g3, 2, none⟩ = some (.int .i64 a3) ∧ w'.cell? ⟨g4, 0, none⟩ = some (.int .i64 b1) ∧ w'.cell? ⟨g4, 1, none⟩ = some (.int .i64 b2) ∧ w'.cell? ⟨g4, 2, none⟩ = some (.int .i64 b3) ∧ w'.cell? ⟨gt, 0, none⟩ = some (.int .i64 t) ∧ Hid (Pure V w')) := fun w' hp => ⟨((pcell hp).1 _ _ l3).trans c0, ((pcell hp).1 _ _ l3).trans c1, ((pcell hp).1 _ _ l3).trans c2, ((pcell hp).1 _ _ l4).trans c3, ((pcell hp).1 _ _ l4).trans c4, ((pcell hp).1 _ _ l4).trans c5, ((pcell hp).1 _ _ lt).trans ct, hp⟩
  go_region_held3 (fun w' => w'.cell? ⟨g3, 0, none⟩ = some (.int .i64 a1) ∧ w'.cell? ⟨g3, 1, none⟩ = some (.int .i64 a2) ∧ w'.cell? ⟨g3, 2, none⟩ = some (.int .i64 a3) ∧ w'.cell? ⟨g4, 0, none⟩ = some (.int .i64 b1) ∧ w'.cell? ⟨g4, 1, none⟩ = some (.int .i64 b2) ∧ w'.cell? ⟨g4, 2, none⟩ = some (.int .i64 b3) ∧ w'.cell? ⟨gt, 0, none⟩ = some (.int .i64 t) ∧ Hid (Pure V w'))
    (exact KEY.out _ (by first | exact hp0.out | exact hp0.out.trans hp6 | exact (hp0.out.trans hp6).trans hp7 | exact ((hp0.out.trans hp6).trans hp7).trans hp8))
    (first | (go_at_call_of 77 b1; refine Calls.mono (at_any _ b1 b2 b3 t HB1.out.1 HB1.out.2.2.1 HB1.out.2.2.2 HT.out) ?_; rintro e w6 ⟨rfl, hp6⟩) | (go_at_call_of 77 a1; refine Calls.mono (at_any _ a1 a2 a3 t HA1.out.1 HA1.out.2.2.1 HA1.out.2.2.2 HT.out) ?_; rintro e w7 ⟨rfl, hp7⟩) | (go_at_call 73; refine Calls.mono (cheaper_any _ _ _ _ _ HVB.out.1 HVB.out.2 HVA.out.1 HVA.out.2) ?_; rintro e w8 ⟨rfl, hp8⟩))
  rename_i hHeld
  obtain ⟨-, -, -, -, -, -, -, hp⟩ := hHeld
  clear KEY hp0
  have HPE : Hid (Pure w w8) := HP.out.trans hp.out
  clear hp hp6 hp7 hp8
  go_wp2
  exact bodyPost_ret (v := .bool (hgB t (a1, a2, a3) (b1, b2, b3))) (by simp [results, Tryd.results89, go_sem]; rfl) rfl ⟨rfl, HPE.out⟩
set_option maxRecDepth 20000 in
set_option maxHeartbeats 4000000 in
theorem bestB_any (w : World) (t : Int) (gt : Nat) (first : Bd) (l : List Bd) (q : Option Addr) (c n : Nat) (hn : l.length = n) (hn1 : n ≤ 100) (h0 : OkB first) (hf : ∀ k, k < n → OkB (nthB l k)) (ht : 0 ≤ t ∧ t ≤ 100) (hk : Blk gt 2 #[.int .i64 t] w) (hl : BndAt w q l) :
    Calls Tryd.prog 90 #[.func (.func 89) #[] #[.pointer (some ⟨gt, 0, none⟩)], .agg #[.int .i64 first.1, .int .i64 first.2.1, .int .i64 first.2.2], .slice q n c] w fun e w' =>
      e = .returned (.agg #[.int .i64 (bestB t first (nthB l) n).1, .int .i64 (bestB t first (nthB l) n).2.1, .int .i64 (bestB t first (nthB l) n).2.2]) ∧ Pure w w' := by
  have HS := Lib.hid (bestB_ok (t := t) h0 hf)
  obtain ⟨T, hT⟩ : ∃ T, T = bestB t first (nthB l) := ⟨_, rfl⟩
  rw [← hT] at HS ⊢
  have HT0 : Hid (T 0 = first) := by show _ = _; rw [hT]; rfl
  have HT1 : Hid (∀ k, T (k + 1) = if hgB t (nthB l k) (T k) = true then nthB l k else T k) := fun k => by rw [hT]; rfl
  have HF := Lib.hid hf
  have HKT := Lib.hid hk
  have HT := Lib.hid ht
  have HN := Lib.hid hn
  clear hT h0 hf hk ht hn
  go_enter Tryd.func90, Tryd.ntmps90
  go_wp2
  obtain ⟨X, hX⟩ : ∃ V : World, ((w.alloc (.cells #[.int .i64 first.1, .int .i64 first.2.1, .int .i64 first.2.2] 101)).alloc (.cells #[.int .i64 0, .int .i64 0, .int .i64 0] 101)).alloc (.cells #[.int .i64 first.1, .int .i64 first.2.1, .int .i64 first.2.2] 101) = V := ⟨_, rfl⟩
  have k1 : Blk (w.heap.size + 1) 101 #[.int .i64 0, .int .i64 0, .int .i64 0] X := by
    rw [← hX]; have := (Blk.new (w.alloc (.cells #[.int .i64 first.1, .int .i64 first.2.1, .int .i64 first.2.2] 101)) 101 #[.int .i64 0, .int .i64 0, .int .i64 0]).alloc (.cells #[.int .i64 first.1, .int .i64 first.2.1, .int .i64 first.2.2] 101); simpa using this
  have k2 : Blk (w.heap.size + 1 + 1) 101 #[.int .i64 (T 0).1, .int .i64 (T 0).2.1, .int .i64 (T 0).2.2] X := by
    rw [← hX, HT0.out]; have := Blk.new ((w.alloc (.cells #[.int .i64 first.1, .int .i64 first.2.1, .int .i64 first.2.2] 101)).alloc (.cells #[.int .i64 0, .int .i64 0, .int .i64 0] 101)) 101 #[.int .i64 first.1, .int .i64 first.2.1, .int .i64 first.2.2]; simpa using this
  have hP : Pure w X := by rw [← hX]; exact (((Diff.refl _).alloc _).alloc _).alloc _
  rw [hX]
  clear hX
  obtain ⟨G, hG⟩ : ∃ G, w.heap.size + 1 + 1 = G := ⟨_, rfl⟩
  have HG : Hid (w.heap.size < G ∧ w.heap.size + 1 < G) := ⟨by omega, by omega⟩
  rw [hG] at k2 ⊢
  clear hG
  go_loopw [13] (fun i wr => ∃ k : Nat, k ≤ n ∧ i = .int .i64 k ∧ Hid (Blk (w.heap.size + 1) 101 #[.int .i64 0, .int .i64 0, .int .i64 0] wr) ∧ Hid (Blk G 101 #[.int .i64 (T k).1, .int .i64 (T k).2.1, .int .i64 (T k).2.2] wr) ∧ Hid (Pure w wr)) (fun i _ => n - (intOf i).toNat)
  case atStart => exact ⟨0, Nat.zero_le _, rfl, k1, k2, hP⟩
  case round =>
    obtain ⟨k, hk, rfl, K1, K2, HP⟩ := hrel
    by_cases hlt : k < n
    · obtain ⟨b, o, rfl, hb, hc1, hc2, hc3⟩ := hl k (by rw [HN.out]; exact hlt)
      have d1 := ((pcell HP.out).1 _ _ hb).trans hc1
      have d2 := ((pcell HP.out).1 _ _ hb).trans hc2
      have d3 := ((pcell HP.out).1 _ _ hb).trans hc3
      obtain ⟨x, hx⟩ : ∃ x, nthB l k = x := ⟨_, rfl⟩
      have HX : Hid (nthB l k = x ∧ OkB x) := ⟨hx, hx ▸ HF.out k hlt⟩
      rw [hx] at d1 d2 d3
      obtain ⟨y, hy⟩ : ∃ y, T k = y := ⟨_, rfl⟩
      have HY : Hid (T k = y ∧ OkB y) := ⟨hy, hy ▸ HS.out k (by omega)⟩
      rw [hy] at K2
      have c1 := K2.out.at 0
      have c2 := K2.out.at 1
      have c3 := K2.out.at 2
      have l2 := K2.out.lt
      have hki : (k : Int) < (n : Int) := by omega
      clear hc1 hc2 hc3 k1 k2 hP hx hy
      go_wp2_with fail
      obtain ⟨Z, hZ⟩ : ∃ V : World, wr.alloc (.cells #[.int .i64 x.1, .int .i64 x.2.1, .int .i64 x.2.2] 101) = V := ⟨_, rfl⟩
      have q0 : Blk wr.heap.size 101 #[.int .i64 x.1, .int .i64 x.2.1, .int .i64 x.2.2] Z := by rw [← hZ]; exact Blk.new _ _ _
      have hPZ : Pure wr Z := by rw [← hZ]; exact (Diff.refl _).alloc _
      rw [hZ]
      clear hZ
      refine (higher_any Z t gt x y HX.out.2 HY.out.2 HT.out (HKT.out.to (HP.out.trans hPZ))).mono ?_
      rintro e w1 ⟨rfl, hp1⟩
      have Q1 := Lib.hid (q0.to hp1)
      have K11 := Lib.hid (K1.out.to (hPZ.trans hp1))
      have K21 := Lib.hid (K2.out.to (hPZ.trans hp1))
      have HP1 := Lib.hid (HP.out.trans (hPZ.trans hp1))
      have c4 := Q1.out.at 0
      have c5 := Q1.out.at 1
      have c6 := Q1.out.at 2
      have l3 := Q1.out.lt
      have c7 := K21.out.at 0
      have c8 := K21.out.at 1
      have c9 := K21.out.at 2
      have fz := fun o => K21.out.fz o
      have l4 := K21.out.lt
      clear hp1 q0 hPZ c1 c2 c3 l2 d1 d2 d3
      cases hv : hgB t x y with
      | false =>
        have HNN : Hid (T (k + 1) = y) := by show _ = _; rw [HT1.out, HX.out.1, HY.out.1, hv]; rfl
        clear hv
        go_wp2
        go_roundw
        case rel => exact ⟨k + 1, by omega, by go_num, K11.out, by rw [HNN.out]; exact K21.out, HP1.out⟩
        case measure => simp [intOf]; omega
      | true =>
        have HNN : Hid (T (k + 1) = x) := by show _ = _; rw [HT1.out, HX.out.1, HY.out.1, hv]; rfl
        clear hv
        go_wp2
        go_roundw
        case rel =>
          exact ⟨k + 1, by omega, by go_num, K11.out.diff ((Diff.refl (O := fun x => x = G) w1).set3' rfl _ _ _) (by have := HG.out; show ¬ w.heap.size + 1 = G; omega), by rw [HNN.out]; exact K21.out.set3 _ _ _, HP1.out.set3 (by have := HG.out; omega) _ _ _⟩
        case measure => simp [intOf]; omega
    · obtain rfl : k = n := by omega
      obtain ⟨x, hx⟩ : ∃ x, T k = x := ⟨_, rfl⟩
      have HX : Hid (T k = x) := hx
      rw [hx] at K2
      clear hx
      have c1 := K2.out.at 0
      have c2 := K2.out.at 1
      have c3 := K2.out.at 2
      have l2 := K2.out.lt
      have c4 := K1.out.at 0
      have c5 := K1.out.at 1
      have c6 := K1.out.at 2
      have fz := fun o => K1.out.fz o
      clear k1 k2 hP
      go_wp2
      have z := K1.out.set3 (Value.int IntKind.i64 x.1) (Value.int IntKind.i64 x.2.1) (Value.int IntKind.i64 x.2.2)
      have HPZ := HP.out.set3 (g := w.heap.size + 1) (by omega) (Value.int IntKind.i64 x.1) (Value.int IntKind.i64 x.2.1) (Value.int IntKind.i64 x.2.2)
      obtain ⟨Y, hY⟩ : ∃ Y, ((wr.setCell { block := w.heap.size + 1, off := 0 } (Value.int IntKind.i64 x.1)).setCell { block := w.heap.size + 1, off := 1 } (Value.int IntKind.i64 x.2.1)).setCell { block := w.heap.size + 1, off := 2 } (Value.int IntKind.i64 x.2.2) = Y := ⟨_, rfl⟩
      first | rw [hY] at z HPZ HR9 ⊢ | rw [hY] at z HPZ ⊢
      clear hY
      exact bodyPost_ret (v := .agg #[.int .i64 x.1, .int .i64 x.2.1, .int .i64 x.2.2]) (by simp [results, Tryd.results90, go_sem, z.at 0, z.at 1, z.at 2]) rfl ⟨by rw [HX.out], HPZ⟩
end Go.Proofs.YtgpfmnjianflaaaDoor
namespace Go.Proofs.YtgpfmnjianflaaaDoor
open Go.RowKit Go.Shelf
attribute [local go_sem] Oper.semAt_some

theorem wpListIn_append_run {F : Fence} {n : Nat} {P : Program} {ops : Array Oper} {rest : List Oper} {o : Oper} {a : Act} {w : World} {Q : Exit → Act → World → Prop} (hg : o.guard = none) (s x : Operand) (t : TypeId)
    (hop : o.op = Op.call { callee := Callee.builtin Builtin.append, args := #[s, x], argTypes := #[t, t] }) (u y v' : Value) (w' : World) (hs : a.eval s = u) (hx : a.eval x = y)
    (hr : (Builtin.append_ #[t, t] o.type #[u, y]).run P w = .ok v' w') (h : wpListIn F n P ops Q rest (a.put o.dst v') w') : wpListIn F n P ops Q (o :: rest) a w := by
  refine wpListIn_plain hg fun K hK => ?_
  unfold Oper.wpIn
  refine ⟨by simp [Oper.about, hop, resolve, Target.leads, Sem.run_pure], ?_⟩
  rw [Oper.semAt_plain F _ _ (by rw [hop]; intro c hc'; cases hc')]
  simp [execOp, hop, resolve, invoke, builtin, hs, hx, hr, Result.andThen]
  exact hK _ _ h
/-- A line lies below the lots where it is above no lot. -/
theorem hiB_iff {L : LT} {b : Bd} {k : Nat} (hb : 0 < b.1) : hiB L b k = true ↔ L.p k * b.1 < b.2.1 + b.2.2 * L.s k := by
  have h1 := red_one (L.p k)
  have hm := red_mul (b.2.1 + b.2.2 * L.s k) b.1
  have hp := redD_pos (a := b.2.1 + b.2.2 * L.s k) hb
  unfold hiB
  obtain ⟨N, hN⟩ : ∃ N, redN (b.2.1 + b.2.2 * L.s k) b.1 = N := ⟨_, rfl⟩
  obtain ⟨D, hD⟩ : ∃ N, redD (b.2.1 + b.2.2 * L.s k) b.1 = N := ⟨_, rfl⟩
  obtain ⟨g, hg⟩ : ∃ g : Int, (Int.gcd (b.2.1 + b.2.2 * L.s k) b.1 : Int) = g := ⟨_, rfl⟩
  rw [hN, hD, hg] at hm
  rw [hD] at hp
  rw [h1.1, h1.2, hN, hD]
  obtain ⟨A, hA⟩ : ∃ A, b.2.1 + b.2.2 * L.s k = A := ⟨_, rfl⟩
  rw [hA] at hm ⊢
  have hg0 : 0 < g := by
    rcases Int.lt_trichotomy g 0 with h | h | h
    · exfalso; rw [← hg] at h; omega
    · exfalso; rw [h, Int.mul_zero] at hm; omega
    · exact h
  have key : L.p k * D < N * 1 ↔ L.p k * b.1 < A := by
    rw [← hm.1, ← hm.2, Int.mul_one, ← Int.mul_assoc]
    exact (Int.mul_lt_mul_right hg0).symm
  unfold chB hasB
  simp only [Bool.and_eq_true, Bool.or_eq_true, Bool.not_eq_true', decide_eq_true_eq, Bool.not_not, Bool.and_eq_false_imp]
  constructor
  · rintro ⟨-, h | h⟩
    · exfalso
      rcases h with ⟨-, h⟩
      omega
    · exact key.1 h
  · intro h
    exact ⟨by simp, .inr (key.2 h)⟩
theorem lowTo_iff {L : LT} {b : Bd} (hb : 0 < b.1) : lowTo L b L.n = true ↔ Below L b.1 b.2.1 b.2.2 := by
  unfold lowTo Below
  simp only [List.all_eq_true, List.mem_range, Bool.not_eq_true']
  constructor
  · intro h
    refine ⟨hb, fun i hi => ?_⟩
    have h1 := h i hi
    have h2 : ¬ L.p i * b.1 < b.2.1 + b.2.2 * L.s i := fun hh => by rw [(hiB_iff hb).2 hh] at h1; cases h1
    omega
  · intro h i hi
    cases hc : hiB L b i with
    | false => rfl
    | true => have h1 := (hiB_iff hb).1 hc; have h2 := h.2 i hi; omega
def thr (L : LT) (l r : Nat) : Bd := (thD (L.s l) (L.s r), thX (L.s l) (L.p l) (L.s r) (L.p r), L.p r - L.p l)
def pick (ls : Int) (b : Bd) : List Bd := if ls ≤ b.2.2 then [b] else []
/-- The lines through i corners. -/
def linesTo (L : LT) (C : List Nat) (ls : Int) : Nat → List Bd
  | 0 => []
  | i + 1 => linesTo L C ls i ++ pick ls (thr L (nthN C (i - 1)) (nthN C i)) ++ pick ls (thr L (nthN C i) (nthN C i))
theorem pick_length (ls : Int) (b : Bd) : (pick ls b).length ≤ 1 := by unfold pick; split <;> simp
theorem linesTo_length (L : LT) (C : List Nat) (ls : Int) : ∀ i, (linesTo L C ls i).length ≤ 2 * i
  | 0 => by simp [linesTo]
  | i + 1 => by
    have := linesTo_length L C ls i
    have h1 := pick_length ls (thr L (nthN C (i - 1)) (nthN C i))
    have h2 := pick_length ls (thr L (nthN C i) (nthN C i))
    simp only [linesTo, List.length_append]; omega
theorem linesTo_mem {L : LT} {C : List Nat} {ls : Int} {x : Bd} : ∀ {i : Nat}, x ∈ linesTo L C ls i ↔ ∃ j, j < i ∧ ls ≤ x.2.2 ∧ (x = thr L (nthN C (j - 1)) (nthN C j) ∨ x = thr L (nthN C j) (nthN C j))
  | 0 => by simp [linesTo]
  | i + 1 => by
    have hpk : ∀ b, x ∈ pick ls b ↔ ls ≤ x.2.2 ∧ x = b := fun b => by
      unfold pick; split
      · simp; intro e; rw [e]; assumption
      · simp; intro h e; subst e; omega
    simp only [linesTo, List.mem_append, linesTo_mem, hpk]
    constructor
    · rintro ((⟨j, hj, h⟩ | ⟨h, e⟩) | ⟨h, e⟩)
      · exact ⟨j, by omega, h⟩
      · exact ⟨i, by omega, h, .inl e⟩
      · exact ⟨i, by omega, h, .inr e⟩
    · rintro ⟨j, hj, h, e⟩
      by_cases e1 : j = i
      · subst e1
        rcases e with e | e
        · exact .inl (.inr ⟨h, e⟩)
        · exact .inr ⟨h, e⟩
      · exact .inl (.inl ⟨j, by omega, h, e⟩)
theorem thr_ok {L : LT} (hok : L.Ok) {l r : Nat} (hl : l < L.n) (hr : r < L.n) (h : L.s l ≤ L.s r) : OkB (thr L l r) := by
  have hd0 : 1 ≤ thD (L.s l) (L.s r) ∧ thD (L.s l) (L.s r) ≤ 100 := by unfold thD; have := hok.s0 l hl; have := hok.s1 r hr; split <;> omega
  have a1 := mul_bnd (a := L.p l) (b := thD (L.s l) (L.s r)) 1000 100 (by have := hok.p0 l hl; omega) (hok.p1 l hl) (by omega) hd0.2
  have a2 := mul_bnd (a := L.p r - L.p l) (b := L.s l) 1000 100 (by have := hok.p1 l hl; have := hok.p0 r hr; omega) (by have := hok.p0 l hl; have := hok.p1 r hr; omega) (by have := hok.s0 l hl; omega) (hok.s1 l hl)
  refine ⟨hd0, ?_, ?_⟩
  · show _ ≤ thX _ _ _ _ ∧ thX _ _ _ _ ≤ _
    unfold thX; omega
  · show _ ≤ L.p r - L.p l ∧ L.p r - L.p l ≤ _
    have := hok.p0 l hl; have := hok.p1 l hl; have := hok.p0 r hr; have := hok.p1 r hr; omega
theorem lines_ok {L : LT} (hok : L.Ok) {C : List Nat} {m : Nat} (hch : Chain L (nthN C) (m - 1)) {ls : Int} {x : Bd} (h : x ∈ linesTo L C ls m) : OkB x := by
  obtain ⟨j, hj, -, e⟩ := linesTo_mem.1 h
  rcases e with e | e <;> subst e
  · exact thr_ok hok (hch.mem (j - 1) (by omega)) (hch.mem j (by omega)) (hch.mono (by omega) (by omega))
  · exact thr_ok hok (hch.mem j (by omega)) (hch.mem j (by omega)) (Int.le_refl _)
/-- With a least step of at most 0 there is a line that lies below the lots. -/
theorem kept_pos {L : LT} {C : List Nat} {m : Nat} (hm : 1 ≤ m) (hch : Chain L (nthN C) (m - 1)) {ls : Int} (hls : ls ≤ 0) : 0 < (keptB L (linesTo L C ls m)).length := by
  obtain ⟨j, hj, hlow, -⟩ := hch.low
  have hc := fun i (hi : i < L.n) => hch.cheapest hlow hi
  apply List.length_pos_of_mem (a := thr L (nthN C j) (nthN C j))
  unfold keptB
  rw [List.mem_filter]
  refine ⟨linesTo_mem.2 ⟨j, by omega, by show ls ≤ L.p _ - L.p _; omega, .inr rfl⟩, ?_⟩
  have hd : thD (L.s (nthN C j)) (L.s (nthN C j)) = 1 := by unfold thD; rw [if_neg (by omega)]
  refine (lowTo_iff (by show 0 < thD _ _; rw [hd]; omega)).2 ⟨by show 0 < thD _ _; rw [hd]; omega, fun i hi => ?_⟩
  show thX _ _ _ _ + (L.p _ - L.p _) * _ ≤ L.p i * thD _ _
  unfold thX
  rw [hd, Int.sub_self, Int.zero_mul, Int.zero_mul]
  have := hc i hi
  omega

/-- Between two rounds: the objects K stand, and the box GV tells of the lines ls, which lie in a row of their own. -/
structure NP (w : World) (K : List (Nat × Obj)) (S GV : Nat) (ls : List Bd) (O : Nat → Prop) (W : World) : Prop where
  ni : NI w K S True O W
  box : ∃ v, Blk GV 98 #[v] W ∧ W.ownsRow S 101 3 v ls.length (valsB ls) ∧ ∀ k, v.ownBlock = some k → ¬ O k
  low : GV < S
  up : w.heap.size ≤ GV
  ne : ∀ x ∈ K, x.1 ≠ GV
theorem NP.stable {w : World} {K : List (Nat × Obj)} {S GV : Nat} {ls : List Bd} (hS : w.heap.size ≤ S) : Stable (NP w K S GV ls) := by
  intro O O' x y h hd hO
  obtain ⟨v, hb, hr, ha⟩ := h.box
  refine ⟨NI.stable hS _ _ _ _ h.ni hd hO, ⟨v, hb.diff hd (fun ho => by have := h.ni.own _ ho; have := h.low; omega), own_diff hr hd (fun k hk ho => ha k hk ho), fun k hk ho => ?_⟩, h.low, h.up, h.ne⟩
  rcases hO k ho with h' | h'
  · exact ha k hk h'
  · have := (hr.lt k hk).2; omega
theorem NP.pure {w : World} {K : List (Nat × Obj)} {S GV : Nat} {ls : List Bd} {O : Nat → Prop} {W W' : World} (h : NP w K S GV ls O W) (hp : Pure W W') : NP w K S GV ls O W' := by
  obtain ⟨v, hb, hr, ha⟩ := h.box
  exact ⟨h.ni.pure hp, ⟨v, hb.to hp, own_pure hr hp, ha⟩, h.low, h.up, h.ne⟩
theorem NP.push {w : World} {K : List (Nat × Obj)} {S GV : Nat} {ls : List Bd} {O : Nat → Prop} {W w' : World} {v v' : Value} {b : Bd} (h : NP w K S GV ls O W) (hSw : w.heap.size ≤ S) (hv : Blk GV 98 #[v] W) (hO : ∀ k, O k → k < W.heap.size)
    (ho : w'.ownsRow S 101 3 v' (ls.length + 1) (valsB ls ++ [.int .i64 b.1, .int .i64 b.2.1, .int .i64 b.2.2])) (hd : Diff (fun k => some k = v.ownBlock) W w') (hob : v'.ownBlock = v.ownBlock ∨ v'.ownBlock = some (W.heap.size + 1)) :
    NP w K S GV (ls ++ [b]) O (w'.setCell ⟨GV, 0, none⟩ v') ∧ Diff (fun k => ¬ k < w.heap.size ∧ ¬ O k) W (w'.setCell ⟨GV, 0, none⟩ v') ∧ Blk GV 98 #[v'] (w'.setCell ⟨GV, 0, none⟩ v') := by
  obtain ⟨v0, hb, hr, ha⟩ := h.box
  have e : v0 = v := by
    have h1 := hb.symm.trans hv
    simpa using h1
  subst e
  have hnGV : ∀ k, v0.ownBlock = some k → k ≠ GV := fun k hk e => by have := (hr.lt k hk).1; have := h.low; omega
  have hb' : Blk GV 98 #[v0] w' := hb.diff hd (fun hh => hnGV _ hh.symm rfl)
  have hset : Blk GV 98 #[v'] (w'.setCell ⟨GV, 0, none⟩ v') := hb'.set 0 v'
  have hDD : Diff (fun k => some k = v0.ownBlock ∨ k = GV) W (w'.setCell ⟨GV, 0, none⟩ v') := (hd.mono (fun k _ hh => .inl hh)).setCell (p := ⟨GV, 0, none⟩) (fun _ => .inr rfl) _
  have hv'GV : ∀ k, v'.ownBlock = some k → k ≠ GV := fun k hk e => by
    have := (ho.lt k hk).1; have := h.low; omega
  refine ⟨⟨⟨⟨h.ni.kept.pw.trans' hDD (fun k hk hh => ?_), fun x hx => ?_⟩, h.ni.own, h.ni.low, Nat.le_trans h.ni.big hDD.size, trivial⟩, ⟨v', hset, ?_, fun k hk hh => ?_⟩, h.low, h.up, h.ne⟩, hDD.mono (fun k _ hh => ?_), hset⟩
  · rcases hh with hh | hh
    · have := (hr.lt k hh.symm).1; omega
    · have := h.up; omega
  · have hx2 := h.ni.kept.objs x hx
    have hxl := h.ni.low x hx
    refine (hDD.block _ (Array.getElem?_eq_some_iff.1 hx2).1 (fun hh => ?_)).trans hx2
    rcases hh with hh | hh
    · have := (hr.lt _ hh.symm).1; omega
    · exact h.ne x hx hh
  · rw [List.length_append, valsB_append]
    exact own_diff ho ((Diff.refl (O := fun k => k = GV) w').setCell (p := ⟨GV, 0, none⟩) (fun _ => rfl) _) (fun k hk e => hv'GV k hk e)
  · rcases hob with e | e
    · exact ha k (e ▸ hk) hh
    · rw [e] at hk; cases hk; have := hO _ hh; omega
  · rcases hh with hh | hh
    · exact ⟨by have := (hr.lt k hh.symm).1; omega, ha k hh.symm⟩
    · subst hh; exact ⟨by have := h.up; omega, fun ho => by have := h.ni.own _ ho; have := h.low; omega⟩
def proofB (L : LT) (t ls : Int) : Bd :=
  bestB t (nthB (keptB L (linesTo L L.corners ls L.corners.length)) 0) (fun k => nthB (keptB L (linesTo L L.corners ls L.corners.length)) (k + 1)) ((keptB L (linesTo L L.corners ls L.corners.length)).length - 1)

theorem size98 (w : World) : (sizeOf (Tryd.prog.elem 98)).run Tryd.prog w = .ok 3 w := by kernel_rfl
theorem nthB_mem {l : List Bd} {k : Nat} (hk : k < l.length) : nthB l k ∈ l := by
  have e : nthB l k = l[k] := by simp [nthB, hk]
  rw [e]; exact List.getElem_mem hk
theorem BndAt.dif {w w' : World} {b o g : Nat} {l : List Bd} (h : BndAt w (some ⟨b, o, none⟩) l) (hp : Diff (fun k => k = g) w w') (hg : b ≠ g) : BndAt w' (some ⟨b, o, none⟩) l := fun k hk => by
  obtain ⟨b', o', e, hb, h1, h2, h3⟩ := h k hk
  cases e
  exact ⟨b, o, rfl, Nat.lt_of_lt_of_le hb hp.size, (hp.cell (p := ⟨b, o + k * 3, none⟩) hb hg).trans h1, (hp.cell (p := ⟨b, o + k * 3 + 1, none⟩) hb hg).trans h2, (hp.cell (p := ⟨b, o + k * 3 + 2, none⟩) hb hg).trans h3⟩
set_option maxRecDepth 20000 in
set_option maxHeartbeats 8000000 in
theorem proof_any (w : World) (L : LT) (p q : Option Addr) (cap c : Nat) (t ls : Int) (ht : 0 ≤ t ∧ t ≤ 100) (hls : ls ≤ 0) (hok : L.Ok) (hl : LotsAt w.heap.size w p L) (hq : RowN w q L.corners) :
    Calls Tryd.prog 78 #[.agg #[.slice p L.n cap, .slice q L.corners.length c], .int .i64 t, .int .i64 ls] w fun e w' => e = .returned (.agg #[.int .i64 (proofB L t ls).1, .int .i64 (proofB L t ls).2.1, .int .i64 (proofB L t ls).2.2]) ∧ Pure w w' := by
  have HPB : Hid (∀ C, L.corners = C → proofB L t ls = bestB t (nthB (keptB L (linesTo L C ls C.length)) 0) (fun k => nthB (keptB L (linesTo L C ls C.length)) (k + 1)) ((keptB L (linesTo L C ls C.length)).length - 1)) := fun C h => by unfold proofB; rw [h]
  obtain ⟨pb, hpb⟩ : ∃ x, proofB L t ls = x := ⟨_, rfl⟩
  rw [hpb] at HPB ⊢
  clear hpb
  obtain ⟨C, hC⟩ : ∃ C, L.corners = C := ⟨_, rfl⟩
  have HPC := Lib.hid (HPB.out C hC)
  have hch := corner_chain L (by have := hok.n0; omega)
  have hpos := corners_pos L (by have := hok.n0; omega)
  have hle := corners_length L
  have hn8 := hok.n8
  have hn1 := hok.n0
  rw [hC] at hq hch hpos hle ⊢
  obtain ⟨m, hm⟩ : ∃ m, C.length = m := ⟨_, rfl⟩
  rw [hm] at hch hpos hle HPC ⊢
  obtain ⟨bl, ol, rfl, hbl, -, -⟩ := hl 0 (by omega)
  have HM := Lib.hid hm
  have HL := Lib.hid hl
  have HQ := Lib.hid hq
  have HOK := Lib.hid hok
  have HCH := Lib.hid hch
  have HT := Lib.hid ht
  have HLS := Lib.hid hls
  clear hC hm hl hq hok hch HPB ht hls
  refine (callsIn_wide (n := 0)).1 ?_
  have hro : Fence.wide.round = none := rfl
  refine callsIn_of_wp_marks (n := 0) Tryd.func78 rfl trivial ?_ hro
  simp only [Tryd.ntmps78, List.size_toArray, List.length_cons, List.length_nil, Nat.reduceAdd, Nat.reduceSub, Array.replicate_succ, Array.replicate_zero, List.push_toArray, List.append_toArray, List.nil_append, List.cons_append]
  refine wpIn_seq (wpIn_wide.2 ?_)
  go_wp2_with fail
  refine wpIn_seq (wpIn_wide.2 ?_)
  go_wp2_with fail
  obtain ⟨Y, hY⟩ : ∃ V : World, ((((w.alloc (.cells #[.slice (some { block := bl, off := ol }) L.n cap, .slice q m c] 89)).alloc (.cells #[.int .i64 t] 2)).alloc (.cells #[.int .i64 ls] 2)).alloc (.cells #[.int .i64 0, .int .i64 0, .int .i64 0] 45)).alloc (.cells #[.slice none 0 0] 98) = V := ⟨_, rfl⟩
  have k0 : Blk w.heap.size 89 #[.slice (some { block := bl, off := ol }) L.n cap, .slice q m c] Y := by rw [← hY]; exact ((((Blk.new _ _ _).alloc _).alloc _).alloc _).alloc _
  have k1 : Blk (w.heap.size + 1) 2 #[.int .i64 t] Y := by
    rw [← hY]
    have := (((Blk.new (w.alloc (.cells #[.slice (some { block := bl, off := ol }) L.n cap, .slice q m c] 89)) 2 #[.int .i64 t]).alloc (.cells #[.int .i64 ls] 2)).alloc (.cells #[.int .i64 0, .int .i64 0, .int .i64 0] 45)).alloc (.cells #[.slice none 0 0] 98)
    simpa using this
  have k2 : Blk (w.heap.size + 1 + 1) 2 #[.int .i64 ls] Y := by
    rw [← hY]
    have := ((Blk.new ((w.alloc (.cells #[.slice (some { block := bl, off := ol }) L.n cap, .slice q m c] 89)).alloc (.cells #[.int .i64 t] 2)) 2 #[.int .i64 ls]).alloc (.cells #[.int .i64 0, .int .i64 0, .int .i64 0] 45)).alloc (.cells #[.slice none 0 0] 98)
    simpa using this
  have k3 : Blk (w.heap.size + 1 + 1 + 1) 45 #[.int .i64 0, .int .i64 0, .int .i64 0] Y := by
    rw [← hY]
    have := (Blk.new (((w.alloc (.cells #[.slice (some { block := bl, off := ol }) L.n cap, .slice q m c] 89)).alloc (.cells #[.int .i64 t] 2)).alloc (.cells #[.int .i64 ls] 2)) 45 #[.int .i64 0, .int .i64 0, .int .i64 0]).alloc (.cells #[.slice none 0 0] 98)
    simpa using this
  have k4 : Blk (w.heap.size + 1 + 1 + 1 + 1) 98 #[.slice none 0 0] Y := by
    rw [← hY]
    have := Blk.new ((((w.alloc (.cells #[.slice (some { block := bl, off := ol }) L.n cap, .slice q m c] 89)).alloc (.cells #[.int .i64 t] 2)).alloc (.cells #[.int .i64 ls] 2)).alloc (.cells #[.int .i64 0, .int .i64 0, .int .i64 0] 45)) 98 #[.slice none 0 0]
    simpa using this
  have hP : Pure w Y := by rw [← hY]; exact (((((Diff.refl _).alloc _).alloc _).alloc _).alloc _).alloc _
  rw [hY]
  clear hY
  obtain ⟨G1, hG1⟩ : ∃ G, w.heap.size + 1 = G := ⟨_, rfl⟩
  rw [hG1] at k1 k2 k3 k4 ⊢
  obtain ⟨G2, hG2⟩ : ∃ G, G1 + 1 = G := ⟨_, rfl⟩
  rw [hG2] at k2 k3 k4 ⊢
  obtain ⟨G3, hG3⟩ : ∃ G, G2 + 1 = G := ⟨_, rfl⟩
  rw [hG3] at k3 k4 ⊢
  obtain ⟨GV, hGV⟩ : ∃ G, G3 + 1 = G := ⟨_, rfl⟩
  rw [hGV] at k4 ⊢
  have HGG : Hid (w.heap.size + 1 = G1 ∧ G1 + 1 = G2 ∧ G2 + 1 = G3 ∧ G3 + 1 = GV) := ⟨hG1, hG2, hG3, hGV⟩
  have K0 := Lib.hid k0
  have K1 := Lib.hid k1
  have K2 := Lib.hid k2
  have K3 := Lib.hid k3
  have K4 := Lib.hid k4
  have HP := Lib.hid hP
  clear hG1 hG2 hG3 hGV k0 k1 k2 k3 k4 hP
  have c0 := K0.out.at 0
  have c1 := K0.out.at 1
  have l0 := K0.out.lt
  gi_wp2_with fail
  rename_i Q9 K9 hK9
  have hRow : Row w.heap.size Y q m fun k => .int .i64 (nthN C k : Int) := by have := HQ.out; unfold RowN at this; rw [HM.out] at this; exact this.diff HP.out (Nat.le_refl _) (fun _ _ => id)
  refine range_law (f := 87) (A := fun y => #[.agg #[.slice (some { block := bl, off := ol }) L.n cap, .slice q m c], y]) (n := m) (es := fun i => #[.int .i64 (nthN C (i - 1) : Int), .int .i64 (nthN C i : Int)]) (R := fun k => k < w.heap.size) (W0 := Y)
    ?call (neighbours_iter Y (.slice (some { block := bl, off := ol }) L.n cap) q C m c w.heap.size HM.out (by omega) (by omega) hRow HP.out.size ⟨_, _, _, rfl⟩) (fun k hk => Nat.lt_of_lt_of_le hk HP.out.size) (Diff.refl _) (fun _ _ => rfl)
    (fun i => NP w [(w.heap.size, .cells #[.slice (some { block := bl, off := ol }) L.n cap, .slice q m c] 89), (G1, .cells #[.int .i64 t] 2), (G2, .cells #[.int .i64 ls] 2), (G3, .cells #[.int .i64 0, .int .i64 0, .int .i64 0] 45)] (GV + 1) GV (linesTo L C ls i)) (fun _ _ => False) (fun i => NP.stable (by have := HGG.out; omega)) (fun _ _ _ _ h _ _ => h) ?start
    (fun i W1 a' W' => a' = { tmps := #[Value.agg #[Value.slice (some { block := bl, off := ol }) L.n cap, Value.slice q m c], Value.int IntKind.i64 (t : Int), Value.int IntKind.i64 (ls : Int), Value.pointer (some { block := w.heap.size, off := 0 }), Value.pointer (some { block := G1, off := 0 }), Value.pointer (some { block := G2, off := 0 }), Value.pointer (some { block := G3, off := 0 }), Value.pointer (some { block := GV, off := 0 }), Value.int IntKind.i64 (nthN C (i - 1) : Int), Value.int IntKind.i64 (nthN C i : Int), undef, undef, undef, undef, Value.agg #[Value.slice (some { block := bl, off := ol }) L.n cap, Value.slice q m c], Value.func (Fn.func 87) #[Value.agg #[Value.slice (some { block := bl, off := ol }) L.n cap, Value.slice q m c]] #[], Value.int IntKind.i64 (nthN C (i - 1) : Int), Value.int IntKind.i64 (nthN C i : Int), undef, undef, undef, undef, undef, undef, undef, undef, undef, undef, undef, undef, undef, undef, undef, undef, undef, undef, undef, undef, undef, undef, undef, undef, undef, undef, undef, undef, undef, undef, undef, undef, undef, undef, undef, undef, undef, undef, undef, undef, undef, undef, undef, undef, undef, undef, undef, undef, undef, undef, undef, undef, undef], defers := [] })
    ?bx ?assign ?body ?done ?stop
  case call =>
    intro l' W'
    exact ⟨{ target := .fn (.func 87) #[], args := #[.agg #[.slice (some { block := bl, off := ol }) L.n cap, .slice q m c], .func (.yield l') #[] #[]] }, by simp only [resolve, rangeCall]; simp [go_sem], by simp [invoke, go_sem, enters_of Tryd.func87 (by kernel_rfl) rfl]⟩
  case start =>
    refine ⟨⟨⟨HP.out, ?_⟩, fun _ h => h.elim, ?_, K4.out.lt, trivial⟩, ⟨_, K4.out, World.ownsRow_nil _ _ _ _, fun _ _ h => h⟩, by omega, by have := HGG.out; omega, ?_⟩
    · intro x hx
      simp only [List.mem_cons, List.mem_nil_iff, or_false] at hx
      rcases hx with rfl | rfl | rfl | rfl
      · exact K0.out
      · exact K1.out
      · exact K2.out
      · exact K3.out
    · intro x hx
      have := HGG.out
      simp only [List.mem_cons, List.mem_nil_iff, or_false] at hx
      rcases hx with rfl | rfl | rfl | rfl <;> simp only <;> omega
    · intro x hx
      have := HGG.out
      simp only [List.mem_cons, List.mem_nil_iff, or_false] at hx
      rcases hx with rfl | rfl | rfl | rfl <;> simp only <;> omega
  case bx =>
    rintro i W1 a' W' L o h hL
    exact h
  case assign =>
    intro l' i O W1 hi hI
    gi_wp2
    exact ⟨Diff.refl _, by first | rfl | trivial⟩
  case body =>
    rintro l' i O W1 a' V hi hI hdo hOb hs1' hs2 rfl
    have hN := NP.stable (by have := HGG.out; omega) O O _ _ hI hdo (fun _ h => .inl h)
    have HN := Lib.hid hN
    have HCH1 := HCH.out
    obtain ⟨x0, hx0⟩ : ∃ x, nthN C (i - 1) = x := ⟨_, rfl⟩
    obtain ⟨x1, hx1⟩ : ∃ x, nthN C i = x := ⟨_, rfl⟩
    have hn0 : x0 < L.n := by rw [← hx0]; exact HCH1.mem (i - 1) (by omega)
    have hn1 : x1 < L.n := by rw [← hx1]; exact HCH1.mem i (by omega)
    have hle01 : L.s x0 ≤ L.s x1 := by rw [← hx0, ← hx1]; exact HCH1.mono (by omega) (by omega)
    have HX : Hid (nthN C (i - 1) = x0 ∧ nthN C i = x1) := ⟨hx0, hx1⟩
    rw [hx0, hx1]
    have hpw := hN.ni.kept.pw
    obtain ⟨bl', ol', hpl, -, hs0, hp0⟩ := HL.out x0 hn0
    cases hpl
    obtain ⟨bl', ol', hpl, -, hs1, hp1⟩ := HL.out x1 hn1
    cases hpl
    have e1 := ((pcell hpw).1 _ _ hbl).trans hs0
    have e2 := ((pcell hpw).1 _ _ hbl).trans hp0
    have e3 := ((pcell hpw).1 _ _ hbl).trans hs1
    have e4 := ((pcell hpw).1 _ _ hbl).trans hp1
    have kV : Blk w.heap.size 89 #[.slice (some { block := bl, off := ol }) L.n cap, .slice q m c] V := hN.ni.kept.objs (w.heap.size, .cells #[.slice (some { block := bl, off := ol }) L.n cap, .slice q m c] 89) (by simp)
    have e0 : V.cell? ⟨w.heap.size, 0, none⟩ = some (.slice (some { block := bl, off := ol }) L.n cap) := kV.at 0
    have lV := kV.lt
    have lB : bl < V.heap.size := Nat.lt_of_lt_of_le hbl hpw.size
    have hn0i : (x0 : Int) < (L.n : Int) := by omega
    have hn1i : (x1 : Int) < (L.n : Int) := by omega
    have hmx : Tryd.prog.follows .mixedOrders = true := by kernel_rfl
    clear hx0 hx1 hN hI hdo hs0 hp0 hs1 hp1 hpw kV HCH1 hRow c0 c1 l0
    gi_wp2
    refine reg_inv (fun d a W => a = { tmps := #[Value.agg #[Value.slice (some { block := bl, off := ol }) L.n cap, Value.slice q m c], Value.int IntKind.i64 (t : Int), Value.int IntKind.i64 (ls : Int), Value.pointer (some { block := w.heap.size, off := 0 }), Value.pointer (some { block := G1, off := 0 }), Value.pointer (some { block := G2, off := 0 }), Value.pointer (some { block := G3, off := 0 }), Value.pointer (some { block := GV, off := 0 }), Value.int IntKind.i64 (x0 : Int), Value.int IntKind.i64 (x1 : Int), undef, undef, undef, undef, Value.agg #[Value.slice (some { block := bl, off := ol }) L.n cap, Value.slice q m c], Value.func (Fn.func 87) #[Value.agg #[Value.slice (some { block := bl, off := ol }) L.n cap, Value.slice q m c]] #[], Value.int IntKind.i64 (x0 : Int), Value.int IntKind.i64 (x1 : Int), (bif d 0 then Value.pointer (some { block := w.heap.size, off := 0 }) else undef), (bif d 1 then Value.pointer (some { block := w.heap.size, off := 0 }) else undef), (bif d 2 then Value.slice (some { block := bl, off := ol }) L.n cap else undef), (bif d 3 then Value.int IntKind.i64 (x0 : Int) else undef), (bif d 4 then Value.pointer (some { block := bl, off := ol + x0 * 2 }) else undef), (bif d 5 then Value.agg #[Value.int IntKind.i64 (L.s x0), Value.int IntKind.i64 (L.p x0)] else undef), (bif d 6 then Value.pointer (some { block := w.heap.size, off := 0 }) else undef), (bif d 7 then Value.pointer (some { block := w.heap.size, off := 0 }) else undef), (bif d 8 then Value.slice (some { block := bl, off := ol }) L.n cap else undef), (bif d 9 then Value.int IntKind.i64 (x1 : Int) else undef), (bif d 10 then Value.pointer (some { block := bl, off := ol + x1 * 2 }) else undef), (bif d 11 then Value.agg #[Value.int IntKind.i64 (L.s x1), Value.int IntKind.i64 (L.p x1)] else undef), (bif d 12 then Value.agg #[Value.int IntKind.i64 (thD (L.s x0) (L.s x1)), Value.int IntKind.i64 (thX (L.s x0) (L.p x0) (L.s x1) (L.p x1)), Value.int IntKind.i64 (L.p x1 - L.p x0)] else undef), (bif d 13 then Value.pointer (some { block := w.heap.size, off := 0 }) else undef), (bif d 14 then Value.pointer (some { block := w.heap.size, off := 0 }) else undef), (bif d 15 then Value.slice (some { block := bl, off := ol }) L.n cap else undef), (bif d 16 then Value.int IntKind.i64 (x1 : Int) else undef), (bif d 17 then Value.pointer (some { block := bl, off := ol + x1 * 2 }) else undef), (bif d 18 then Value.agg #[Value.int IntKind.i64 (L.s x1), Value.int IntKind.i64 (L.p x1)] else undef), (bif d 19 then Value.pointer (some { block := w.heap.size, off := 0 }) else undef), (bif d 20 then Value.pointer (some { block := w.heap.size, off := 0 }) else undef), (bif d 21 then Value.slice (some { block := bl, off := ol }) L.n cap else undef), (bif d 22 then Value.int IntKind.i64 (x1 : Int) else undef), (bif d 23 then Value.pointer (some { block := bl, off := ol + x1 * 2 }) else undef), (bif d 24 then Value.agg #[Value.int IntKind.i64 (L.s x1), Value.int IntKind.i64 (L.p x1)] else undef), (bif d 25 then Value.agg #[Value.int IntKind.i64 (thD (L.s x1) (L.s x1)), Value.int IntKind.i64 (thX (L.s x1) (L.p x1) (L.s x1) (L.p x1)), Value.int IntKind.i64 (L.p x1 - L.p x1)] else undef), (bif d 26 then Value.agg #[Value.int IntKind.i64 (thD (L.s x0) (L.s x1)), Value.int IntKind.i64 (thX (L.s x0) (L.p x0) (L.s x1) (L.p x1)), Value.int IntKind.i64 (L.p x1 - L.p x0), Value.int IntKind.i64 (thD (L.s x1) (L.s x1)), Value.int IntKind.i64 (thX (L.s x1) (L.p x1) (L.s x1) (L.p x1)), Value.int IntKind.i64 (L.p x1 - L.p x1)] else undef), (bif d 27 then Value.int IntKind.i64 0 else undef), undef, undef, undef, undef, undef, undef, undef, undef, undef, undef, undef, undef, undef, undef, undef, undef, undef, undef, undef, undef, undef, undef, undef, undef, undef], defers := [] } ∧ Hid (Pure V W)) hmx (by kernel_rfl) ?_ ?_ ?_
    · exact ⟨rfl, (Diff.refl V).drew⟩
    · refine ⟨?_, ?_, ?_, ?_, ?_, ?_, ?_, ?_, ?_, ?_, ?_, ?_, ?_, ?_, ?_, ?_, ?_, ?_, ?_, ?_, ?_, ?_, ?_, ?_, ?_, ?_, ?_, ?_, trivial⟩
      · rintro d a W hdi hdep hcl ⟨rfl, hw⟩ K hK
        have E := hcl.facts 0 hdi rfl hdep [] [1, 2, 4, 5, 12, 25, 26] (by kernel_rfl) (by kernel_rfl)
        simp only [AllT, AllF] at E
        clear hdi hdep hcl
        go_simp
        exact hK _ _ ⟨by simp [upd, E], hw⟩
      · rintro d a W hdi hdep hcl ⟨rfl, hw⟩ K hK
        have E := hcl.facts 1 hdi rfl hdep [0] [2, 4, 5, 12, 25, 26] (by kernel_rfl) (by kernel_rfl)
        simp only [AllT, AllF] at E
        clear hdi hdep hcl
        go_simp
        exact hK _ _ ⟨by simp [upd, E], hw⟩
      · rintro d a W hdi hdep hcl ⟨rfl, hw⟩ K hK
        have E := hcl.facts 2 hdi rfl hdep [0, 1] [4, 5, 12, 25, 26] (by kernel_rfl) (by kernel_rfl)
        simp only [AllT, AllF] at E
        clear hdi hdep hcl
        have z0 := ((pcell hw.out).1 _ _ lV).trans e0
        go_simp
        exact hK _ _ ⟨by simp [upd, E], hw⟩
      · rintro d a W hdi hdep hcl ⟨rfl, hw⟩ K hK
        have E := hcl.facts 3 hdi rfl hdep [] [4, 5, 12, 25, 26] (by kernel_rfl) (by kernel_rfl)
        simp only [AllT, AllF] at E
        clear hdi hdep hcl
        go_simp
        exact hK _ _ ⟨by simp [upd, E], hw⟩
      · rintro d a W hdi hdep hcl ⟨rfl, hw⟩ K hK
        have E := hcl.facts 4 hdi rfl hdep [0, 1, 2, 3] [5, 12, 25, 26] (by kernel_rfl) (by kernel_rfl)
        simp only [AllT, AllF] at E
        clear hdi hdep hcl
        go_simp
        exact hK _ _ ⟨by simp [upd, E], hw⟩
      · rintro d a W hdi hdep hcl ⟨rfl, hw⟩ K hK
        have E := hcl.facts 5 hdi rfl hdep [0, 1, 2, 3, 4] [12, 25, 26] (by kernel_rfl) (by kernel_rfl)
        simp only [AllT, AllF] at E
        clear hdi hdep hcl
        have z1 := ((pcell hw.out).1 _ _ lB).trans e1
        have z2 := ((pcell hw.out).1 _ _ lB).trans e2
        go_simp
        exact hK _ _ ⟨by simp [upd, E], hw⟩
      · rintro d a W hdi hdep hcl ⟨rfl, hw⟩ K hK
        have E := hcl.facts 6 hdi rfl hdep [] [7, 8, 10, 11, 12, 25, 26] (by kernel_rfl) (by kernel_rfl)
        simp only [AllT, AllF] at E
        clear hdi hdep hcl
        go_simp
        exact hK _ _ ⟨by simp [upd, E], hw⟩
      · rintro d a W hdi hdep hcl ⟨rfl, hw⟩ K hK
        have E := hcl.facts 7 hdi rfl hdep [6] [8, 10, 11, 12, 25, 26] (by kernel_rfl) (by kernel_rfl)
        simp only [AllT, AllF] at E
        clear hdi hdep hcl
        go_simp
        exact hK _ _ ⟨by simp [upd, E], hw⟩
      · rintro d a W hdi hdep hcl ⟨rfl, hw⟩ K hK
        have E := hcl.facts 8 hdi rfl hdep [6, 7] [10, 11, 12, 25, 26] (by kernel_rfl) (by kernel_rfl)
        simp only [AllT, AllF] at E
        clear hdi hdep hcl
        have z0 := ((pcell hw.out).1 _ _ lV).trans e0
        go_simp
        exact hK _ _ ⟨by simp [upd, E], hw⟩
      · rintro d a W hdi hdep hcl ⟨rfl, hw⟩ K hK
        have E := hcl.facts 9 hdi rfl hdep [] [10, 11, 12, 25, 26] (by kernel_rfl) (by kernel_rfl)
        simp only [AllT, AllF] at E
        clear hdi hdep hcl
        go_simp
        exact hK _ _ ⟨by simp [upd, E], hw⟩
      · rintro d a W hdi hdep hcl ⟨rfl, hw⟩ K hK
        have E := hcl.facts 10 hdi rfl hdep [6, 7, 8, 9] [11, 12, 25, 26] (by kernel_rfl) (by kernel_rfl)
        simp only [AllT, AllF] at E
        clear hdi hdep hcl
        go_simp
        exact hK _ _ ⟨by simp [upd, E], hw⟩
      · rintro d a W hdi hdep hcl ⟨rfl, hw⟩ K hK
        have E := hcl.facts 11 hdi rfl hdep [6, 7, 8, 9, 10] [12, 25, 26] (by kernel_rfl) (by kernel_rfl)
        simp only [AllT, AllF] at E
        clear hdi hdep hcl
        have z1 := ((pcell hw.out).1 _ _ lB).trans e3
        have z2 := ((pcell hw.out).1 _ _ lB).trans e4
        go_simp
        exact hK _ _ ⟨by simp [upd, E], hw⟩
      · rintro d a W hdi hdep hcl ⟨rfl, hw⟩ K hK
        have E := hcl.facts 12 hdi rfl hdep [0, 1, 2, 3, 4, 5, 6, 7, 8, 9, 10, 11] [25, 26] (by kernel_rfl) (by kernel_rfl)
        simp only [AllT, AllF] at E
        clear hdi hdep hcl
        go_simp
        refine ⟨trivial, rfl, callsIn_wide.2 ((through_any W (L.s x0) (L.p x0) (L.s x1) (L.p x1) hle01 ⟨HOK.out.s0 x0 hn0, HOK.out.s1 x0 hn0⟩ ⟨HOK.out.s0 x1 hn1, HOK.out.s1 x1 hn1⟩ ⟨HOK.out.p0 x0 hn0, HOK.out.p1 x0 hn0⟩ ⟨HOK.out.p0 x1 hn1, HOK.out.p1 x1 hn1⟩).mono ?_)⟩
        rintro e w9 ⟨rfl, hp9⟩
        exact hK _ _ ⟨by simp [upd, E], hw.out.trans hp9⟩
      · rintro d a W hdi hdep hcl ⟨rfl, hw⟩ K hK
        have E := hcl.facts 13 hdi rfl hdep [] [14, 15, 17, 18, 25, 26] (by kernel_rfl) (by kernel_rfl)
        simp only [AllT, AllF] at E
        clear hdi hdep hcl
        go_simp
        exact hK _ _ ⟨by simp [upd, E], hw⟩
      · rintro d a W hdi hdep hcl ⟨rfl, hw⟩ K hK
        have E := hcl.facts 14 hdi rfl hdep [13] [15, 17, 18, 25, 26] (by kernel_rfl) (by kernel_rfl)
        simp only [AllT, AllF] at E
        clear hdi hdep hcl
        go_simp
        exact hK _ _ ⟨by simp [upd, E], hw⟩
      · rintro d a W hdi hdep hcl ⟨rfl, hw⟩ K hK
        have E := hcl.facts 15 hdi rfl hdep [13, 14] [17, 18, 25, 26] (by kernel_rfl) (by kernel_rfl)
        simp only [AllT, AllF] at E
        clear hdi hdep hcl
        have z0 := ((pcell hw.out).1 _ _ lV).trans e0
        go_simp
        exact hK _ _ ⟨by simp [upd, E], hw⟩
      · rintro d a W hdi hdep hcl ⟨rfl, hw⟩ K hK
        have E := hcl.facts 16 hdi rfl hdep [] [17, 18, 25, 26] (by kernel_rfl) (by kernel_rfl)
        simp only [AllT, AllF] at E
        clear hdi hdep hcl
        go_simp
        exact hK _ _ ⟨by simp [upd, E], hw⟩
      · rintro d a W hdi hdep hcl ⟨rfl, hw⟩ K hK
        have E := hcl.facts 17 hdi rfl hdep [13, 14, 15, 16] [18, 25, 26] (by kernel_rfl) (by kernel_rfl)
        simp only [AllT, AllF] at E
        clear hdi hdep hcl
        go_simp
        exact hK _ _ ⟨by simp [upd, E], hw⟩
      · rintro d a W hdi hdep hcl ⟨rfl, hw⟩ K hK
        have E := hcl.facts 18 hdi rfl hdep [13, 14, 15, 16, 17] [25, 26] (by kernel_rfl) (by kernel_rfl)
        simp only [AllT, AllF] at E
        clear hdi hdep hcl
        have z1 := ((pcell hw.out).1 _ _ lB).trans e3
        have z2 := ((pcell hw.out).1 _ _ lB).trans e4
        go_simp
        exact hK _ _ ⟨by simp [upd, E], hw⟩
      · rintro d a W hdi hdep hcl ⟨rfl, hw⟩ K hK
        have E := hcl.facts 19 hdi rfl hdep [] [20, 21, 23, 24, 25, 26] (by kernel_rfl) (by kernel_rfl)
        simp only [AllT, AllF] at E
        clear hdi hdep hcl
        go_simp
        exact hK _ _ ⟨by simp [upd, E], hw⟩
      · rintro d a W hdi hdep hcl ⟨rfl, hw⟩ K hK
        have E := hcl.facts 20 hdi rfl hdep [19] [21, 23, 24, 25, 26] (by kernel_rfl) (by kernel_rfl)
        simp only [AllT, AllF] at E
        clear hdi hdep hcl
        go_simp
        exact hK _ _ ⟨by simp [upd, E], hw⟩
      · rintro d a W hdi hdep hcl ⟨rfl, hw⟩ K hK
        have E := hcl.facts 21 hdi rfl hdep [19, 20] [23, 24, 25, 26] (by kernel_rfl) (by kernel_rfl)
        simp only [AllT, AllF] at E
        clear hdi hdep hcl
        have z0 := ((pcell hw.out).1 _ _ lV).trans e0
        go_simp
        exact hK _ _ ⟨by simp [upd, E], hw⟩
      · rintro d a W hdi hdep hcl ⟨rfl, hw⟩ K hK
        have E := hcl.facts 22 hdi rfl hdep [] [23, 24, 25, 26] (by kernel_rfl) (by kernel_rfl)
        simp only [AllT, AllF] at E
        clear hdi hdep hcl
        go_simp
        exact hK _ _ ⟨by simp [upd, E], hw⟩
      · rintro d a W hdi hdep hcl ⟨rfl, hw⟩ K hK
        have E := hcl.facts 23 hdi rfl hdep [19, 20, 21, 22] [24, 25, 26] (by kernel_rfl) (by kernel_rfl)
        simp only [AllT, AllF] at E
        clear hdi hdep hcl
        go_simp
        exact hK _ _ ⟨by simp [upd, E], hw⟩
      · rintro d a W hdi hdep hcl ⟨rfl, hw⟩ K hK
        have E := hcl.facts 24 hdi rfl hdep [19, 20, 21, 22, 23] [25, 26] (by kernel_rfl) (by kernel_rfl)
        simp only [AllT, AllF] at E
        clear hdi hdep hcl
        have z1 := ((pcell hw.out).1 _ _ lB).trans e3
        have z2 := ((pcell hw.out).1 _ _ lB).trans e4
        go_simp
        exact hK _ _ ⟨by simp [upd, E], hw⟩
      · rintro d a W hdi hdep hcl ⟨rfl, hw⟩ K hK
        have E := hcl.facts 25 hdi rfl hdep [0, 1, 2, 3, 4, 5, 6, 7, 8, 9, 10, 11, 12, 13, 14, 15, 16, 17, 18, 19, 20, 21, 22, 23, 24] [26] (by kernel_rfl) (by kernel_rfl)
        simp only [AllT, AllF] at E
        clear hdi hdep hcl
        go_simp
        refine ⟨trivial, rfl, callsIn_wide.2 ((through_any W (L.s x1) (L.p x1) (L.s x1) (L.p x1) (Int.le_refl _) ⟨HOK.out.s0 x1 hn1, HOK.out.s1 x1 hn1⟩ ⟨HOK.out.s0 x1 hn1, HOK.out.s1 x1 hn1⟩ ⟨HOK.out.p0 x1 hn1, HOK.out.p1 x1 hn1⟩ ⟨HOK.out.p0 x1 hn1, HOK.out.p1 x1 hn1⟩).mono ?_)⟩
        rintro e w9 ⟨rfl, hp9⟩
        exact hK _ _ ⟨by simp [upd, E], hw.out.trans hp9⟩
      · rintro d a W hdi hdep hcl ⟨rfl, hw⟩ K hK
        have E := hcl.facts 26 hdi rfl hdep [0, 1, 2, 3, 4, 5, 6, 7, 8, 9, 10, 11, 12, 13, 14, 15, 16, 17, 18, 19, 20, 21, 22, 23, 24, 25] [] (by kernel_rfl) (by kernel_rfl)
        simp only [AllT, AllF] at E
        clear hdi hdep hcl
        go_simp
        exact hK _ _ ⟨by simp [upd, E], hw⟩
      · rintro d a W hdi hdep hcl ⟨rfl, hw⟩ K hK
        have E := hcl.facts 27 hdi rfl hdep [] [] (by kernel_rfl) (by kernel_rfl)
        simp only [AllT, AllF] at E
        clear hdi hdep hcl
        go_simp
        exact hK _ _ ⟨by simp [upd, E], hw⟩
    · rintro d a W hall ⟨rfl, hw⟩
      have E := AllT.all hall [0, 1, 2, 3, 4, 5, 6, 7, 8, 9, 10, 11, 12, 13, 14, 15, 16, 17, 18, 19, 20, 21, 22, 23, 24, 25, 26, 27] (by kernel_rfl)
      simp only [AllT] at E
      simp only [E, cond_true] at hw ⊢
      clear E hall
      have HPV := Lib.hid hw.out
      have HNV := Lib.hid (HN.out.pure hw.out)
      obtain ⟨⟨d1, y1, z1⟩, hb1⟩ : ∃ b : Bd, thr L x0 x1 = b := ⟨_, rfl⟩
      obtain ⟨⟨d2, y2, z2⟩, hb2⟩ : ∃ b : Bd, thr L x1 x1 = b := ⟨_, rfl⟩
      have HB12 : Hid (thr L x0 x1 = (d1, y1, z1) ∧ thr L x1 x1 = (d2, y2, z2)) := ⟨hb1, hb2⟩
      simp only [thr, Prod.mk.injEq] at hb1 hb2
      rw [hb1.1, hb1.2.1, hb1.2.2, hb2.1, hb2.2.1, hb2.2.2]
      have hMW : Diff (fun k => ¬ k < w.heap.size ∧ ¬ O k) V W := HPV.out.mono fun _ _ h => h.elim
      have HMW := Lib.hid hMW
      have hOW : ∀ k, O k → k < W.heap.size := fun k hk => by have := (hOb k hk).2; have := hs2; have := HPV.out.size; omega
      have HOW := Lib.hid hOW
      have HLL := linesTo_length L C ls i
      clear hw e0 e1 e2 e3 e4 hb1 hb2 hMW hOW
      gi_wp2_with fail
      gi_loopw [45] (fun iv wr => ∃ u : Nat, iv = .int .i64 (u : Int) ∧ u ≤ 2 ∧ Hid (NP w [(w.heap.size, .cells #[.slice (some { block := bl, off := ol }) L.n cap, .slice q m c] 89), (G1, .cells #[.int .i64 t] 2), (G2, .cells #[.int .i64 ls] 2), (G3, .cells #[.int .i64 0, .int .i64 0, .int .i64 0] 45)] (GV + 1) GV (linesTo L C ls i ++ (if 1 ≤ u then pick ls (d1, y1, z1) else []) ++ (if 2 ≤ u then pick ls (d2, y2, z2) else [])) O wr) ∧ Hid (Diff (fun k => ¬ k < w.heap.size ∧ ¬ O k) V wr) ∧ Hid (∀ k, O k → k < wr.heap.size)) (fun iv _ => (2 - intOf iv).toNat)
      case atStart =>
        exact ⟨0, rfl, by omega, by show NP _ _ _ _ _ _ _; simpa using HNV.out, HMW.out, HOW.out⟩
      case round =>
        obtain ⟨u, rfl, hu, HNU, HDU, HOU⟩ := hrel
        by_cases hu2 : u = 2
        · subst hu2
          gi_wp2_with fail
          refine ⟨HDU.out.mono fun k _ h => h, ?_⟩
          have e : linesTo L C ls (i + 1) = linesTo L C ls i ++ pick ls (d1, y1, z1) ++ pick ls (d2, y2, z2) := by rw [linesTo, HX.out.1, HX.out.2, HB12.out.1, HB12.out.2]
          rw [e]
          simpa using HNU.out
        · obtain ⟨⟨d, y, z⟩, bs, lcur, hcur⟩ : ∃ (b : Bd) (bs : Value) (lcur : List Bd), Hid (lcur = (linesTo L C ls i ++ (if 1 ≤ u then pick ls (d1, y1, z1) else []) ++ (if 2 ≤ u then pick ls (d2, y2, z2) else [])) ∧ lcur ++ pick ls b = (linesTo L C ls i ++ (if 1 ≤ u + 1 then pick ls (d1, y1, z1) else []) ++ (if 2 ≤ u + 1 then pick ls (d2, y2, z2) else [])) ∧ lcur.length ≤ 100 ∧
              (Instr.index 115 (.agg #[.int .i64 d1, .int .i64 y1, .int .i64 z1, .int .i64 d2, .int .i64 y2, .int .i64 z2]) (.int .i64 (u : Int))).run Tryd.prog wr = .ok (.agg #[.int .i64 b.1, .int .i64 b.2.1, .int .i64 b.2.2]) wr) := by
            have hp1 := pick_length ls (d1, y1, z1)
            rcases (by omega : u = 0 ∨ u = 1) with e | e
            · subst e
              exact ⟨(d1, y1, z1), .slice none 0 0, _, rfl, by simp, by simp; omega, by kernel_rfl⟩
            · subst e
              exact ⟨(d2, y2, z2), .slice none 0 0, _, rfl, by simp, by simp; omega, by kernel_rfl⟩
          have hui : (u : Int) < 2 := by omega
          have hnp : NP w [(w.heap.size, .cells #[.slice (some { block := bl, off := ol }) L.n cap, .slice q m c] 89), (G1, .cells #[.int .i64 t] 2), (G2, .cells #[.int .i64 ls] 2), (G3, .cells #[.int .i64 0, .int .i64 0, .int .i64 0] 45)] (GV + 1) GV lcur O wr := by rw [hcur.out.1]; exact HNU.out
          have HNP := Lib.hid hnp
          obtain ⟨v, hbv, hrv, hav⟩ := hnp.box
          have hk5 : Blk G2 2 #[.int .i64 ls] wr := hnp.ni.kept.objs (G2, .cells #[.int .i64 ls] 2) (by simp)
          have k5 := hk5.at 0
          have l5 := hk5.lt
          have kv := hbv.at 0
          have lv := hbv.lt
          have HBV := Lib.hid hbv
          have HRV := Lib.hid hrv
          have hr0 := hcur.out.2.2.2
          have hpa : Pure wr (wr.alloc (.cells #[.int .i64 d, .int .i64 y, .int .i64 z] 101)) := (Diff.refl _).alloc _
          have HPA := Lib.hid hpa
          have HNPA := Lib.hid (HNP.out.pure hpa)
          have HCUR := hcur
          dsimp only at hr0
          clear hnp hbv hrv hav hk5 hpa hcur
          by_cases hz : ls ≤ z
          · obtain ⟨v', w', hr, ho', hd', hob⟩ := push_bound (own_pure HRV.out HPA.out) (by have := HCUR.out.2.2.1; omega) (by have := HNPA.out.ni.big; exact this) (d, y, z)
            rw [World.size_alloc] at hr
            dsimp only at hr
            obtain ⟨g', c', rfl⟩ : ∃ g c, v' = .slice (some ⟨g, 0, none⟩) (lcur.length + 1) c := by
              rcases ho'.2 with ⟨-, h0⟩ | ⟨g, c, cur, he, -⟩
              · omega
              · exact ⟨g, c, he⟩
            have hpsh := HNPA.out.push (by have := HGG.out; omega) (HBV.out.alloc _) (fun k hk => by rw [World.size_alloc]; have := HOU.out k hk; omega) ho' hd' hob
            have hb' : Blk GV 98 #[v] w' := (HBV.out.alloc _).diff hd' (fun hh => by have := (HRV.out.lt _ hh.symm).1; omega)
            have kv2 := hb'.at 0
            have fv2 := fun o => hb'.fz o
            have lv2 := hb'.lt
            have HPS := Lib.hid hpsh
            have HD' := Lib.hid hd'
            clear hpsh hb' ho' hd' hob
            gi_wp2_with (gi_at_builtin; refine wpListIn_append_run rfl _ _ _ rfl _ _ _ _ rfl rfl hr ?_)
            go_roundw
            case rel =>
              refine ⟨u + 1, by go_num, by omega, ?_, ?_, ?_⟩
              · have e := HCUR.out.2.1
                have e2 : pick ls (d, y, z) = [(d, y, z)] := if_pos hz
                rw [e2] at e
                show NP _ _ _ _ _ _ _
                rw [← e]; exact HPS.out.1
              · exact (HDU.out.trans (HPA.out.mono fun _ _ h => h.elim)).trans HPS.out.2.1
              · intro k hk
                have h1 := HOU.out k hk
                have h2 := HPS.out.2.1.size
                rw [World.size_alloc] at h2
                omega
            case measure => simp [intOf]; omega
          · gi_wp2_with fail
            go_roundw
            case rel =>
              refine ⟨u + 1, by go_num, by omega, ?_, ?_, ?_⟩
              · have e := HCUR.out.2.1
                have e2 : pick ls (d, y, z) = [] := if_neg hz
                rw [e2, List.append_nil] at e
                show NP _ _ _ _ _ _ _
                rw [← e]; exact HNPA.out
              · exact HDU.out.trans (HPA.out.mono fun _ _ h => h.elim)
              · intro k hk
                have h1 := HOU.out k hk
                rw [World.size_alloc]
                omega
            case measure => simp [intOf]; omega
  case done =>
    rintro O D W hN hOD hDs hDd
    have hkp := hN.ni.kept
    have hpw := hkp.pw
    obtain ⟨v, hbv, hrv, hav⟩ := hN.box
    obtain ⟨q1, c1, rfl, hbn, -, -⟩ := bnd_own hrv
    have k0 : Blk w.heap.size 89 #[.slice (some { block := bl, off := ol }) L.n cap, .slice q m c] W := hkp.objs (w.heap.size, .cells #[.slice (some { block := bl, off := ol }) L.n cap, .slice q m c] 89) (by simp)
    have k1 : Blk G1 2 #[.int .i64 t] W := hkp.objs (G1, .cells #[.int .i64 t] 2) (by simp)
    have k3 : Blk G3 45 #[.int .i64 0, .int .i64 0, .int .i64 0] W := hkp.objs (G3, .cells #[.int .i64 0, .int .i64 0, .int .i64 0] 45) (by simp)
    have hDO : GV + 1 ≤ D := hN.ni.own _ hOD
    have hDW : D < W.heap.size := (Array.getElem?_eq_some_iff.1 hDd).1
    have hmx : Tryd.prog.follows .mixedOrders = true := by kernel_rfl
    have c0 := k0.at 0
    have l0 := k0.lt
    have cv := hbv.at 0
    have lv := hbv.lt
    have K1 := Lib.hid k1
    have K3 := Lib.hid k3
    have HPW := Lib.hid hpw
    have HBN := Lib.hid hbn
    have HDD := Lib.hid hDd
    have HLEN := linesTo_length L C ls m
    have hkpos := kept_pos (m := m) (by omega) HCH.out HLS.out
    have HOL : Hid (∀ x ∈ linesTo L C ls m, OkB x) := fun x hx => lines_ok HOK.out HCH.out hx
    clear hkp hpw hbv hrv hav hbn k0 k1 k3 hN hDd
    refine hK9 _ _ (wpIn_seq (wpIn_wide.2 ?_))
    go_wp2_with fail
    refine wpIn_seq (wpIn_wide.2 ?_)
    go_wp2_with fail
    refine (below_any W L (some { block := bl, off := ol }) q1 cap c1 (linesTo L C ls m) HOK.out (HL.out.to HPW.out) HBN.out (by omega) (fun k hk => HOL.out _ (nthB_mem hk))).mono ?_
    rintro e w5 ⟨⟨q2, c2, rfl, hbn2, hc2l, hq2s⟩, hp5⟩
    obtain ⟨KB, hKB⟩ : ∃ K, keptB L (linesTo L C ls m) = K := ⟨_, rfl⟩
    have HKO : Hid (∀ k, k < KB.length → OkB (nthB KB k)) := fun k hk => by
      have h1 := nthB_mem hk
      have h2 : nthB KB k ∈ keptB L (linesTo L C ls m) := by rw [hKB]; exact h1
      exact HOL.out _ (List.mem_filter.1 h2).1
    rw [hKB] at hbn2 hkpos hc2l ⊢
    have HPC2 : Hid (pb = bestB t (nthB KB 0) (fun k => nthB KB (k + 1)) (KB.length - 1)) := by show _ = _; rw [← hKB]; exact HPC.out
    obtain ⟨nk, hnk⟩ : ∃ n, KB.length = n + 1 := ⟨KB.length - 1, by omega⟩
    have hnk2 : KB.length - 1 = nk := by omega
    have hnkl : nk ≤ 100 := by
      have : KB.length ≤ (linesTo L C ls m).length := by rw [← hKB]; exact List.length_filter_le _ _
      omega
    obtain ⟨b2, o2, hq2, hb2, hc1, hc2, hc3⟩ := hbn2 0 (by omega)
    subst hq2
    have hb2s : W.heap.size ≤ b2 := hq2s _ rfl
    have HBS : Hid (GV < b2) := (show GV < b2 by omega)
    have hc1' : w5.cell? ⟨b2, o2, none⟩ = some (.int .i64 (nthB KB 0).1) := by simpa using hc1
    have hc2' : w5.cell? ⟨b2, o2 + 1, none⟩ = some (.int .i64 (nthB KB 0).2.1) := by simpa using hc2
    have hc3' : w5.cell? ⟨b2, o2 + 2, none⟩ = some (.int .i64 (nthB KB 0).2.2) := by simpa using hc3
    obtain ⟨q3, hsl, hq3⟩ : ∃ q3 : Option Addr, (∀ w : World, (Instr.slice 98 (.slice (some ⟨b2, o2, none⟩) (nk + 1) c2) (some (.int .i64 1)) none none).run Tryd.prog w = .ok (.slice q3 nk (c2 - 1)) w) ∧ (nk = 0 ∨ q3 = some ⟨b2, o2 + 3, none⟩) := by
      by_cases h1 : c2 = 1
      · subst h1
        obtain rfl : nk = 0 := by omega
        exact ⟨some ⟨b2, o2, none⟩, fun w => by simp [go_sem, sliced, size98], .inl rfl⟩
      · refine ⟨some ⟨b2, o2 + 3, none⟩, fun w => ?_, .inr rfl⟩
        have e1 : ¬ c2 - 1 = 0 := by omega
        have e2 : (1 : Int) ≤ (nk : Int) + 1 := by omega
        simp [go_sem, sliced, size98, e1, e2, h1, Addr.add]
    have HBN2 : Hid (∀ w', Diff (fun k => k = G3) w5 w' → b2 ≠ G3 → BndAt w' q3 (KB.drop 1)) := fun w' hd hne k hk => by
      rcases hq3 with h | h
      · simp at hk; omega
      · obtain ⟨b', o', he, hb', h1, h2, h3⟩ := hbn2 (k + 1) (by simp at hk; omega)
        cases he
        have e0 : o2 + 3 + k * 3 = o2 + (k + 1) * 3 := by omega
        have e9 : nthB (KB.drop 1) k = nthB KB (k + 1) := by simp [nthB, Nat.add_comm]
        refine ⟨b2, o2 + 3, h, Nat.lt_of_lt_of_le hb2 hd.size, ?_, ?_, ?_⟩
        · rw [e0, e9]; exact (hd.cell (p := ⟨b2, o2 + (k + 1) * 3, none⟩) hb2 hne).trans h1
        · rw [e0, e9]; exact (hd.cell (p := ⟨b2, o2 + (k + 1) * 3 + 1, none⟩) hb2 hne).trans h2
        · rw [e0, e9]; exact (hd.cell (p := ⟨b2, o2 + (k + 1) * 3 + 2, none⟩) hb2 hne).trans h3
    have K15 := Lib.hid (K1.out.to hp5)
    have K35 := Lib.hid (K3.out.to hp5)
    have HPW5 := Lib.hid (HPW.out.trans hp5)
    have HD5 : Hid (w5.heap[D]? = some (.deferred (some []))) := (hp5.block D hDW id).trans HDD.out
    have HKB := Lib.hid hKB
    clear hbn2 hq3 hp5 hKB c0 l0 cv lv hc1 hc2 hc3
    rw [hnk]
    go_wp2_with fail
    refine wpIn_seq (wpIn_wide.2 ?_)
    go_wp2_with fail
    obtain ⟨f1, hf1⟩ : ∃ x, nthB KB 0 = x := ⟨_, rfl⟩
    have HF1 : Hid (nthB KB 0 = f1 ∧ OkB f1) := ⟨hf1, hf1 ▸ HKO.out 0 (by omega)⟩
    rw [hf1] at hc1' hc2' hc3'
    have hfd : ∀ (a b c : Int) (w : World), (Instr.field 101 (.agg #[.int .i64 a, .int .i64 b, .int .i64 c]) 0).run Tryd.prog w = .ok (.agg #[.int .i64 a, .int .i64 b, .int .i64 c]) w := fun a b c w => by kernel_rfl
    have hnki : (1 : Int) ≤ ((nk + 1 : Nat) : Int) := by omega
    have hnkn : 0 < nk + 1 := by omega
    have hnkc : nk + 1 ≤ c2 := by omega
    have hnkci : ((nk + 1 : Nat) : Int) ≤ (c2 : Int) := by omega
    have HNKL : Hid ((KB.drop 1).length = nk ∧ nk ≤ 100 ∧ ∀ k, k < nk → OkB (nthB (KB.drop 1) k)) := ⟨by simp; omega, hnkl, fun k hk => by
      have e9 : nthB (KB.drop 1) k = nthB KB (k + 1) := by simp [nthB, Nat.add_comm]
      rw [e9]; exact HKO.out _ (by omega)⟩
    have HPBF : Hid (pb = bestB t f1 (nthB (KB.drop 1)) nk) := by
      show _ = _
      rw [HPC2.out, hf1, hnk2]
      congr 1
      funext k
      simp [nthB, Nat.add_comm]
    obtain ⟨TB, hTB⟩ : ∃ x, bestB t f1 (nthB (KB.drop 1)) nk = x := ⟨_, rfl⟩
    have HTB := Lib.hid hTB
    rw [hTB] at HPBF
    have HG3 : Hid (w.heap.size < G3 ∧ b2 ≠ G3 ∧ G1 ≠ G3 ∧ G3 < D) := by have h1 := HBS.out; have h2 := HGG.out; exact ⟨by omega, by omega, by omega, by omega⟩
    clear hf1 hnkl hnk2 hnk hkpos hTB
    have hp0 : Hid (Diff (fun k => k = G3) w5 w5.drew) := (Diff.refl w5).drew
    have KEY : Hid (∀ w', Diff (fun k => k = G3) w5 w' → w'.cell? ⟨b2, o2, none⟩ = some (.int .i64 f1.1) ∧ w'.cell? ⟨b2, o2 + 1, none⟩ = some (.int .i64 f1.2.1) ∧ w'.cell? ⟨b2, o2 + 2, none⟩ = some (.int .i64 f1.2.2) ∧ Hid (Diff (fun k => k = G3) w5 w')) := fun w' hp =>
      ⟨(hp.cell (p := ⟨b2, o2, none⟩) hb2 HG3.out.2.1).trans hc1', (hp.cell (p := ⟨b2, o2 + 1, none⟩) hb2 HG3.out.2.1).trans hc2', (hp.cell (p := ⟨b2, o2 + 2, none⟩) hb2 HG3.out.2.1).trans hc3', hp⟩
    go_region_held3 (fun w' => w'.cell? ⟨b2, o2, none⟩ = some (.int .i64 f1.1) ∧ w'.cell? ⟨b2, o2 + 1, none⟩ = some (.int .i64 f1.2.1) ∧ w'.cell? ⟨b2, o2 + 2, none⟩ = some (.int .i64 f1.2.2) ∧ Hid (Diff (fun k => k = G3) w5 w'))
      (exact KEY.out _ (by first | exact hp0.out | exact hp0.out.trans (hp7.mono (fun _ _ h => h.elim)) | exact (hp0.out.trans (hp7.mono (fun _ _ h => h.elim))).set3' rfl _ _ _))
      (first | (go_at_call 90; refine Calls.mono (bestB_any _ t G1 f1 (KB.drop 1) q3 _ nk HNKL.out.1 HNKL.out.2.1 HF1.out.2 HNKL.out.2.2 HT.out (by obtain ⟨-, -, -, h⟩ := ‹_ ∧ _ ∧ _ ∧ Hid (Diff (fun k => k = G3) w5 _)›; exact K15.out.diff h.out HG3.out.2.2.1) (by obtain ⟨-, -, -, h⟩ := ‹_ ∧ _ ∧ _ ∧ Hid (Diff (fun k => k = G3) w5 _)›; exact HBN2.out _ h.out HG3.out.2.1)) ?_; rw [HTB.out]; rintro e w7 ⟨rfl, hp7⟩; have K7 := Lib.hid (K35.out.drew.to hp7); have HP7 := Lib.hid (HPW5.out.drew.trans hp7); have c0 := K7.out.at 0; have c1 := K7.out.at 1; have c2 := K7.out.at 2; have fz := fun o => K7.out.fz o; have l0 := K7.out.lt))
    rename_i hHeld
    clear hHeld KEY hp0
    have HD7 : Hid (w7.heap[D]? = some (.deferred (some []))) := (hp7.block D (Nat.lt_of_lt_of_le (Array.getElem?_eq_some_iff.1 HD5.out).1 (Nat.le_refl _)) id).trans HD5.out
    have z0 := K7.out.set3 (.int .i64 TB.1) (.int .i64 TB.2.1) (.int .i64 TB.2.2)
    have HPZ := HP7.out.set3 (g := G3) (by have := HG3.out; omega) (.int .i64 TB.1) (.int .i64 TB.2.1) (.int .i64 TB.2.2)
    have hDf : (((w7.setCell ⟨G3, 0, none⟩ (.int .i64 TB.1)).setCell ⟨G3, 1, none⟩ (.int .i64 TB.2.1)).setCell ⟨G3, 2, none⟩ (.int .i64 TB.2.2)).heap[D]? = some (.deferred (some [])) := by
      have hn : D ≠ G3 := by have := HG3.out; omega
      exact (heap_setCell_other _ _ _ _ hn).trans ((heap_setCell_other _ _ _ _ hn).trans ((heap_setCell_other _ _ _ _ hn).trans HD7.out))
    refine wpIn_ret ?_
    refine ⟨by simp [Act.put], .inl ⟨_, _, rfl, run_takeDeferred hDf, ?_⟩⟩
    have z1 : Blk G3 45 #[.int .i64 TB.1, .int .i64 TB.2.1, .int .i64 TB.2.2] ((((w7.setCell ⟨G3, 0, none⟩ (.int .i64 TB.1)).setCell ⟨G3, 1, none⟩ (.int .i64 TB.2.1)).setCell ⟨G3, 2, none⟩ (.int .i64 TB.2.2)).putObj D (.deferred none)) :=
      (World.putObj_heap_other (by have := HG3.out; omega)).trans z0
    exact ⟨.agg #[.int .i64 TB.1, .int .i64 TB.2.1, .int .i64 TB.2.2], by simp [results, Tryd.results78, go_sem, z1.at 0, z1.at 1, z1.at 2], by rw [HPBF.out], HPZ.putObj (fun h => by have := HGG.out; omega) _⟩
  case stop =>
    rintro O D W hN hOD hDs hDd
    exact hN.elim

end Go.Proofs.YtgpfmnjianflaaaDoor
namespace Go.Proofs.YtgpfmnjianflaaaDoor
open Go.RowKit

def zeroB : Bd := (0, 0, 0)
def lineOf (L : LT) (t : Int) : Bd := if cheapE L t = 0 then proofB L t (-1048576) else zeroB
def floorOf (L : LT) (t : Int) : Bd := if atE L t = 0 then proofB L t 0 else zeroB
theorem atE_ok {L : LT} {t : Int} (h : atE L t = 0) : L.Ok ∧ 0 ≤ t ∧ t ≤ 100 := by
  by_cases h0 : sharpE L t = 0
  · exact sharpE_ok.1 h0
  · unfold atE at h; rw [if_neg h0] at h; exact absurd h h0
set_option maxRecDepth 20000 in
set_option maxHeartbeats 4000000 in
theorem Floor_any (w : World) (L : LT) (p : Option Addr) (cap : Nat) (t : Int) (hn : L.n ≤ 1000) (hl : LotsAt w.heap.size w p L) (hg : Gl w) :
    Calls Tryd.prog 36 #[.slice p L.n cap, .int .i64 t] w fun e w' => e = .returned (.tuple #[.agg #[.int .i64 (floorOf L t).1, .int .i64 (floorOf L t).2.1, .int .i64 (floorOf L t).2.2], .int .i64 (atE L t)]) ∧ Pure w w' := by
  have HG := Lib.hid hg
  have HL := Lib.hid hl
  clear hl hg
  go_enter Tryd.func36, Tryd.ntmps36
  go_wp2_with fail
  obtain ⟨X, hX⟩ : ∃ V : World, w.alloc (.cells #[.int .i64 0, .int .i64 0, .int .i64 0] 45) = V := ⟨_, rfl⟩
  have k0 : Blk w.heap.size 45 #[.int .i64 0, .int .i64 0, .int .i64 0] X := by rw [← hX]; exact Blk.new _ _ _
  have hP : Pure w X := by rw [← hX]; exact (Diff.refl _).alloc _
  rw [hX]
  clear hX
  refine (AtLeast_any X L p cap t hn (HL.out.to hP) (HG.out.to hP)).mono ?_
  rintro e w1 ⟨rfl, hp1⟩
  obtain ⟨c, hc⟩ : ∃ c, atE L t = c := ⟨_, rfl⟩
  obtain ⟨x, hx⟩ : ∃ c, (atP L t).1 = c := ⟨_, rfl⟩
  obtain ⟨y, hy⟩ : ∃ c, (atP L t).2 = c := ⟨_, rfl⟩
  have HC := Lib.hid hc
  rw [hc, hx, hy]
  clear hc hx hy
  have HP1 := Lib.hid (hP.trans hp1)
  have K1 := Lib.hid (k0.to hp1)
  clear hP hp1 k0
  by_cases h0 : c = 0
  · subst h0
    obtain ⟨hok, ht0, ht1⟩ := atE_ok HC.out
    have HOK := Lib.hid hok
    clear hok
    have HE : Hid (floorOf L t = proofB L t 0) := if_pos HC.out
    go_wp2_with fail
    obtain ⟨V, hV⟩ : ∃ V : World, w1.alloc (.cells #[.int .i64 x, .int .i64 y] 29) = V := ⟨_, rfl⟩
    have hX1 : Pure w1 V := by rw [← hV]; exact (Diff.refl _).alloc _
    rw [hV]
    clear hV
    have HPX := Lib.hid (HP1.out.trans hX1)
    have KX := Lib.hid (K1.out.to hX1)
    clear hX1
    refine (shelved_any V L p cap HOK.out (HL.out.to HPX.out)).mono ?_
    rintro e w2 ⟨⟨q, qc, rfl, hq⟩, hp2⟩
    have HQ := Lib.hid hq
    have HP2 := Lib.hid (HPX.out.trans hp2)
    have K2 := Lib.hid (KX.out.to hp2)
    clear hq hp2
    go_wp2_with fail
    refine (proof_any w2 L p q cap qc t 0 ⟨ht0, ht1⟩ (Int.le_refl _) HOK.out (HL.out.to HP2.out) HQ.out).mono ?_
    rintro e w3 ⟨rfl, hp3⟩
    have HP3 := Lib.hid (HP2.out.trans hp3)
    have K3 := Lib.hid (K2.out.to hp3)
    obtain ⟨b, hb⟩ : ∃ b, proofB L t 0 = b := ⟨_, rfl⟩
    rw [hb] at HE ⊢
    have c0 := K3.out.at 0
    have c1 := K3.out.at 1
    have c2 := K3.out.at 2
    have fz := fun o => K3.out.fz o
    have l0 := K3.out.lt
    clear hp3 hb
    go_wp2
    rw [HC.out, HE.out]
    have z := K3.out.set3 (Value.int IntKind.i64 b.1) (Value.int IntKind.i64 b.2.1) (Value.int IntKind.i64 b.2.2)
    have HPZ := HP3.out.set3 (g := w.heap.size) (by omega) (Value.int IntKind.i64 b.1) (Value.int IntKind.i64 b.2.1) (Value.int IntKind.i64 b.2.2)
    obtain ⟨Y, hY⟩ : ∃ Y, ((w3.setCell { block := w.heap.size, off := 0 } (Value.int IntKind.i64 b.1)).setCell { block := w.heap.size, off := 1 } (Value.int IntKind.i64 b.2.1)).setCell { block := w.heap.size, off := 2 } (Value.int IntKind.i64 b.2.2) = Y := ⟨_, rfl⟩
    first | rw [hY] at z HPZ HR9 ⊢ | rw [hY] at z HPZ ⊢
    clear hY
    exact bodyPost_ret (v := .tuple #[.agg #[.int .i64 b.1, .int .i64 b.2.1, .int .i64 b.2.2], .int .i64 0]) (by simp [results, Tryd.results36, go_sem, z.at 0, z.at 1, z.at 2]) rfl ⟨rfl, HPZ⟩
  · have hb : (c != 0) = true := by simpa using h0
    have HE : Hid (floorOf L t = zeroB) := if_neg (by rw [HC.out]; exact h0)
    have c0 := K1.out.at 0
    have c1 := K1.out.at 1
    have c2 := K1.out.at 2
    have fz := fun o => K1.out.fz o
    have l0 := K1.out.lt
    go_wp2
    rw [HC.out, HE.out]
    have z := (K1.out.set3 (Value.int IntKind.i64 0) (Value.int IntKind.i64 0) (Value.int IntKind.i64 0)).alloc (.cells #[.int .i64 x, .int .i64 y] 29)
    have HPZ : Pure w _ := (HP1.out.set3 (g := w.heap.size) (by omega) (Value.int IntKind.i64 0) (Value.int IntKind.i64 0) (Value.int IntKind.i64 0)).alloc (.cells #[.int .i64 x, .int .i64 y] 29)
    exact bodyPost_ret (v := .tuple #[.agg #[.int .i64 0, .int .i64 0, .int .i64 0], .int .i64 c]) (by simp only [results, Tryd.results36]; simp [go_sem, z.at 0, z.at 1, z.at 2]) rfl ⟨rfl, HPZ⟩
set_option maxRecDepth 20000 in
set_option maxHeartbeats 4000000 in
theorem Line_any (w : World) (L : LT) (p : Option Addr) (cap : Nat) (t : Int) (hn : L.n ≤ 1000) (hl : LotsAt w.heap.size w p L) (hg : Gl w) :
    Calls Tryd.prog 35 #[.slice p L.n cap, .int .i64 t] w fun e w' => e = .returned (.tuple #[.agg #[.int .i64 (lineOf L t).1, .int .i64 (lineOf L t).2.1, .int .i64 (lineOf L t).2.2], .int .i64 (cheapE L t)]) ∧ Pure w w' := by
  have hmx : Tryd.prog.follows .mixedOrders = true := by kernel_rfl
  have HG := Lib.hid hg
  have HL := Lib.hid hl
  clear hl hg
  go_enter Tryd.func35, Tryd.ntmps35
  go_wp2_with fail
  obtain ⟨X, hX⟩ : ∃ V : World, w.alloc (.cells #[.int .i64 0, .int .i64 0, .int .i64 0] 45) = V := ⟨_, rfl⟩
  have k0 : Blk w.heap.size 45 #[.int .i64 0, .int .i64 0, .int .i64 0] X := by rw [← hX]; exact Blk.new _ _ _
  have hP : Pure w X := by rw [← hX]; exact (Diff.refl _).alloc _
  rw [hX]
  clear hX
  refine (Cheapest_any X L p cap t hn (HL.out.to hP) (HG.out.to hP)).mono ?_
  rintro e w1 ⟨rfl, hp1⟩
  obtain ⟨c, hc⟩ : ∃ c, cheapE L t = c := ⟨_, rfl⟩
  obtain ⟨x, hx⟩ : ∃ c, (cheapP L t).1 = c := ⟨_, rfl⟩
  obtain ⟨y, hy⟩ : ∃ c, (cheapP L t).2 = c := ⟨_, rfl⟩
  have HC := Lib.hid hc
  rw [hc, hx, hy]
  clear hc hx hy
  have HP1 := Lib.hid (hP.trans hp1)
  have K1 := Lib.hid (k0.to hp1)
  clear hP hp1 k0
  by_cases h0 : c = 0
  · subst h0
    obtain ⟨hok, ht0, ht1⟩ := cheapE_ok HC.out
    have HOK := Lib.hid hok
    have HT : Hid (0 ≤ t ∧ t ≤ 100) := ⟨ht0, ht1⟩
    clear hok
    have HE : Hid (lineOf L t = proofB L t (-1048576)) := if_pos HC.out
    go_wp2_with fail
    obtain ⟨V, hV⟩ : ∃ V : World, w1.alloc (.cells #[.int .i64 x, .int .i64 y] 29) = V := ⟨_, rfl⟩
    have hX1 : Pure w1 V := by rw [← hV]; exact (Diff.refl _).alloc _
    rw [hV]
    clear hV
    have HPX := Lib.hid (HP1.out.trans hX1)
    have KX := Lib.hid (K1.out.to hX1)
    have HLX := Lib.hid (HL.out.to HPX.out)
    have gl := HG.out.to HPX.out
    have g2 := gl.l2
    have lg : 2 < V.heap.size := by have := gl.sz; omega
    have HNE : Hid (2 ≠ w.heap.size) := by have h := HG.out.sz; exact (by omega : 2 ≠ w.heap.size)
    obtain ⟨b, hb⟩ : ∃ b, proofB L t (-1048576) = b := ⟨_, rfl⟩
    have HB := Lib.hid hb
    rw [hb] at HE
    clear hX1 gl hb
    have hp0 : Hid (Diff (fun k => k = w.heap.size) V V.drew) := (Diff.refl V).drew
    have hq0 : Hid (Pure V V.drew) := (Diff.refl V).drew
    have KEY : Hid (∀ w', Diff (fun k => k = w.heap.size) V w' → w'.cell? ⟨2, 0, none⟩ = some (.int .i64 (-1048576)) ∧ Hid (Diff (fun k => k = w.heap.size) V w')) := fun w' hp =>
      ⟨(hp.cell (p := ⟨2, 0, none⟩) lg HNE.out).trans g2, hp⟩
    go_region_held3 (fun w' => w'.cell? ⟨2, 0, none⟩ = some (.int .i64 (-1048576)) ∧ Hid (Diff (fun k => k = w.heap.size) V w'))
      (exact KEY.out _ (by first | exact hp0.out | exact hp0.out.trans (hp6.mono (fun _ _ h => h.elim)) | exact (hp0.out.trans (hp6.mono (fun _ _ h => h.elim))).trans (hp7.mono (fun _ _ h => h.elim)) | exact ((hp0.out.trans (hp6.mono (fun _ _ h => h.elim))).trans (hp7.mono (fun _ _ h => h.elim))).set3' rfl _ _ _))
      (first | (go_at_call 65; refine Calls.mono (shelved_any V.drew L p cap HOK.out (HLX.out.to hq0.out)) ?_; rintro e w6 ⟨⟨q, qc, rfl, hq⟩, hp6⟩; have HQ := Lib.hid hq; clear hq) | (go_at_call 78; refine Calls.mono (proof_any w6 L p q cap qc t (-1048576) HT.out (by omega) HOK.out ((HLX.out.to hq0.out).to hp6) HQ.out) ?_; rw [HB.out]; rintro e w7 ⟨rfl, hp7⟩; have K7 := Lib.hid ((KX.out.drew.to hp6).to hp7); have HP7 := Lib.hid ((HPX.out.drew.trans hp6).trans hp7); have c0 := K7.out.at 0; have c1 := K7.out.at 1; have c2 := K7.out.at 2; have fz := fun o => K7.out.fz o; have l0 := K7.out.lt))
    rename_i hHeld
    clear hHeld KEY hp0
    go_wp2
    rw [HC.out, HE.out]
    have z := K7.out.set3 (Value.int IntKind.i64 b.1) (Value.int IntKind.i64 b.2.1) (Value.int IntKind.i64 b.2.2)
    have HPZ := HP7.out.set3 (g := w.heap.size) (by omega) (Value.int IntKind.i64 b.1) (Value.int IntKind.i64 b.2.1) (Value.int IntKind.i64 b.2.2)
    obtain ⟨Y, hY⟩ : ∃ Y, ((w7.setCell { block := w.heap.size, off := 0 } (Value.int IntKind.i64 b.1)).setCell { block := w.heap.size, off := 1 } (Value.int IntKind.i64 b.2.1)).setCell { block := w.heap.size, off := 2 } (Value.int IntKind.i64 b.2.2) = Y := ⟨_, rfl⟩
    first | rw [hY] at z HPZ HR9 ⊢ | rw [hY] at z HPZ ⊢
    clear hY
    exact bodyPost_ret (v := .tuple #[.agg #[.int .i64 b.1, .int .i64 b.2.1, .int .i64 b.2.2], .int .i64 0]) (by simp [results, Tryd.results35, go_sem, z.at 0, z.at 1, z.at 2]) rfl ⟨rfl, HPZ⟩
  · have hb : (c != 0) = true := by simpa using h0
    have HE : Hid (lineOf L t = zeroB) := if_neg (by rw [HC.out]; exact h0)
    have c0 := K1.out.at 0
    have c1 := K1.out.at 1
    have c2 := K1.out.at 2
    have fz := fun o => K1.out.fz o
    have l0 := K1.out.lt
    go_wp2
    rw [HC.out, HE.out]
    have z := (K1.out.set3 (Value.int IntKind.i64 0) (Value.int IntKind.i64 0) (Value.int IntKind.i64 0)).alloc (.cells #[.int .i64 x, .int .i64 y] 29)
    have HPZ : Pure w _ := (HP1.out.set3 (g := w.heap.size) (by omega) (Value.int IntKind.i64 0) (Value.int IntKind.i64 0) (Value.int IntKind.i64 0)).alloc (.cells #[.int .i64 x, .int .i64 y] 29)
    exact bodyPost_ret (v := .tuple #[.agg #[.int .i64 0, .int .i64 0, .int .i64 0], .int .i64 c]) (by simp only [results, Tryd.results35]; simp [go_sem, z.at 0, z.at 1, z.at 2]) rfl ⟨rfl, HPZ⟩
end Go.Proofs.YtgpfmnjianflaaaDoor
