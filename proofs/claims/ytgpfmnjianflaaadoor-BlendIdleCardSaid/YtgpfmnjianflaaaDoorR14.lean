/- Walk of the reference's others. -/
import Derived.Test.YtgpfmnjianflaaaDoorR12
set_option linter.unusedSimpArgs false
set_option linter.unusedVariables false
set_option linter.constructorNameAsVariable false
namespace Go.Proofs.YtgpfmnjianflaaaDoor
open Go.RowKit

theorem othL_succ (L : LT) (s u : Int) (n : Nat) : L.othL s u (n + 1) = if ((L.s n == s) && (L.p n == u)) = true then L.othL s u n else L.othL s u n ++ [n] := by
  unfold LT.othL
  rw [List.range_succ, List.filter_append]
  cases h : ((L.s n == s) && (L.p n == u))
  · rw [List.filter_cons_of_pos (by show (!((L.s n == s) && (L.p n == u))) = true; rw [h]; rfl), List.filter_nil, if_neg Bool.false_ne_true]
  · rw [List.filter_cons_of_neg (by show ¬ (!((L.s n == s) && (L.p n == u))) = true; rw [h]; decide), List.filter_nil, List.append_nil, if_pos rfl]
theorem othL_le (L : LT) (s u : Int) (n : Nat) : (L.othL s u n).length ≤ n := by
  unfold LT.othL
  exact Nat.le_trans (List.length_filter_le _ _) (by simp)
/-- The cells of chosen lots. -/
def valsO (L : LT) (l : List Nat) : List Value := l.flatMap fun j => [.int .i64 (L.s j), .int .i64 (L.p j)]
theorem valsO_append (L : LT) (l : List Nat) (k : Nat) : valsO L (l ++ [k]) = valsO L l ++ [.int .i64 (L.s k), .int .i64 (L.p k)] := by simp [valsO]
theorem valsO_get (L : LT) : ∀ (l : List Nat) (k : Nat), k < l.length → (valsO L l)[k * 2]? = some (.int .i64 (L.s (nthN l k))) ∧ (valsO L l)[k * 2 + 1]? = some (.int .i64 (L.p (nthN l k)))
  | [], k, h => by simp at h
  | x :: l, 0, _ => ⟨rfl, rfl⟩
  | x :: l, k + 1, h => by
    have ih := valsO_get L l k (by simpa using h)
    have e0 : valsO L (x :: l) = .int .i64 (L.s x) :: .int .i64 (L.p x) :: valsO L l := by simp [valsO]
    have e1 : (k + 1) * 2 = k * 2 + 1 + 1 := by omega
    have e2 : (k + 1) * 2 + 1 = (k * 2 + 1) + 1 + 1 := by omega
    have e3 : nthN (x :: l) (k + 1) = nthN l k := by unfold nthN; rfl
    rw [e2, e1, e0, e3]
    exact ih
theorem valsO_length (L : LT) : ∀ l : List Nat, (valsO L l).length = l.length * 2
  | [] => rfl
  | x :: l => by
    have ih := valsO_length L l
    have e0 : valsO L (x :: l) = .int .i64 (L.s x) :: .int .i64 (L.p x) :: valsO L l := by simp [valsO]
    rw [e0]; simp [ih]; omega
theorem sel_own {W : World} {B : Nat} {u : Value} {L : LT} {l : List Nat} (h : W.ownsRow B 71 2 u l.length (valsO L l)) : ∃ q c, u = .slice q l.length c ∧ LotsAt W.heap.size W q (L.sel l) := by
  rcases h.2 with ⟨rfl, h0⟩ | ⟨g, c, cur, rfl, hb, hg, h1, h2, h3, h4⟩
  · exact ⟨none, 0, by rw [h0], fun k hk => by have hk' : k < l.length := hk; omega⟩
  · refine ⟨_, c, rfl, fun k hk => ⟨g, 0, rfl, (Array.getElem?_eq_some_iff.1 hg).1, ?_⟩⟩
    have hk' : k < l.length := hk
    have hv := valsO_get L l k hk'
    have hcell : ∀ i, i < l.length * 2 → W.cell? ⟨g, i, none⟩ = (valsO L l)[i]? := fun i hi => by
      rw [cell_of_row W _ _ _ _ _ hg, ← h4, List.getElem?_take_of_lt hi]; simp
    refine ⟨?_, ?_⟩
    · rw [show 0 + k * 2 = k * 2 by omega, hcell _ (by omega)]; exact hv.1
    · rw [show 0 + k * 2 + 1 = k * 2 + 1 by omega, hcell _ (by omega)]; exact hv.2
set_option maxRecDepth 20000 in
set_option maxHeartbeats 4000000 in
theorem others_any (w : World) (L : LT) (p : Option Addr) (cap : Nat) (s u : Int) (hn : L.n ≤ 1000) (hl : LotsAt w.heap.size w p L) :
    Calls Tryd.prog 91 #[.slice p L.n cap, .agg #[.int .i64 s, .int .i64 u]] w fun e w' => (∃ q c, e = .returned (.slice q (L.oth s u).n c) ∧ LotsAt w'.heap.size w' q (L.oth s u)) ∧ Pure w w' := by
  have hmx : Tryd.prog.follows .mixedOrders = true := by kernel_rfl
  have HL := Lib.hid hl
  clear hl
  go_enter Tryd.func91, Tryd.ntmps91
  go_wp2_with fail
  obtain ⟨X, hX⟩ : ∃ V : World, w.alloc (.cells #[.int .i64 s, .int .i64 u] 71) = V := ⟨_, rfl⟩
  have k0 : Blk w.heap.size 71 #[.int .i64 s, .int .i64 u] X := by rw [← hX]; exact Blk.new _ _ _
  have hP : Pure w X := by rw [← hX]; exact (Diff.refl _).alloc _
  rw [hX]
  clear hX
  obtain ⟨gz, hgz⟩ : ∃ g, w.heap.size = g := ⟨_, rfl⟩
  have HGZ := Lib.hid hgz
  rw [hgz] at k0 ⊢
  have HK0 := Lib.hid k0
  have HPX := Lib.hid hP
  clear k0 hP hgz
  obtain ⟨m, hm⟩ : ∃ m, L.n = m := ⟨_, rfl⟩
  have HM := Lib.hid hm
  rw [hm] at hn ⊢
  clear hm
  go_loopw [5, 6] (fun v i wr => ∃ k : Nat, k ≤ m ∧ i = .int .i64 k ∧ Hid (wr.ownsRow (gz + 1) 71 2 v (L.othL s u k).length (valsO L (L.othL s u k))) ∧ Hid (Pure w wr) ∧ Hid (Blk gz 71 #[.int .i64 s, .int .i64 u] wr)) (fun _ i _ => m - (intOf i).toNat)
  case atStart => exact ⟨0, Nat.zero_le _, rfl, World.ownsRow_nil _ _ _ _, HPX.out, HK0.out⟩
  case round =>
    obtain ⟨k, hk, rfl, HO, HP, HZ⟩ := hrel
    by_cases hlt : k < m
    · obtain ⟨b, o, rfl, hb, hs0, hs1⟩ := HL.out k (by rw [HM.out]; exact hlt)
      have d0 := ((pcell HP.out).1 _ _ hb).trans hs0
      have d1 := ((pcell HP.out).1 _ _ hb).trans hs1
      have lb := Nat.lt_of_lt_of_le hb HP.out.size
      have z0 := HZ.out.at 0
      have z1 := HZ.out.at 1
      have zl := HZ.out.lt
      have hki : (k : Int) < (m : Int) := by omega
      obtain ⟨x, hx⟩ : ∃ x, (L.s k == s) = x := ⟨_, rfl⟩
      obtain ⟨y, hy⟩ : ∃ y, (L.p k == u) = y := ⟨_, rfl⟩
      clear hs0 hs1
      cases x
      · cases y
        · obtain ⟨v', w', hr, ho', hd', hob⟩ := push_lot (own_pure HO.out (Diff.refl wr).drew) (by have := othL_le L s u k; omega) (by have := HP.out.size; have := HZ.out.lt; exact this) (L.s k) (L.p k)
          have HO' := Lib.hid ho'
          have HD' := Lib.hid hd'
          have hwd : wr.drew.heap.size = wr.heap.size := rfl
          rw [hwd] at hr
          clear ho' hd' hob
          have HS : Hid (L.othL s u (k + 1) = L.othL s u k ++ [k]) := by show _ = _; rw [othL_succ, hx, hy]; rfl
          go_wp2
          go_region
          go_wp2_with (at_builtin; refine Lib.wpList_append_run _ rfl _ _ _ _ rfl _ _ rfl rfl _ _ hr ?_)
          go_roundw
          case rel =>
            refine ⟨k + 1, by omega, by go_num, ?_, ?_, ?_⟩
            · show World.ownsRow _ _ _ _ _ _ _
              rw [HS.out, List.length_append, valsO_append]
              exact HO'.out
            · exact HP.out.drew.trans' HD'.out (fun x hx hh => by have := (HO.out.lt x hh.symm).1; have := HGZ.out; omega)
            · exact (HZ.out.to (Diff.refl wr).drew).diff HD'.out (fun hh => by have := (HO.out.lt _ hh.symm).1; omega)
          case measure => simp [intOf]; omega
        · obtain ⟨v', w', hr, ho', hd', hob⟩ := push_lot (own_pure HO.out (Diff.refl wr).drew) (by have := othL_le L s u k; omega) (by have := HP.out.size; have := HZ.out.lt; exact this) (L.s k) (L.p k)
          have HO' := Lib.hid ho'
          have HD' := Lib.hid hd'
          have hwd : wr.drew.heap.size = wr.heap.size := rfl
          rw [hwd] at hr
          clear ho' hd' hob
          have HS : Hid (L.othL s u (k + 1) = L.othL s u k ++ [k]) := by show _ = _; rw [othL_succ, hx, hy]; rfl
          go_wp2
          go_region
          go_wp2_with (at_builtin; refine Lib.wpList_append_run _ rfl _ _ _ _ rfl _ _ rfl rfl _ _ hr ?_)
          go_roundw
          case rel =>
            refine ⟨k + 1, by omega, by go_num, ?_, ?_, ?_⟩
            · show World.ownsRow _ _ _ _ _ _ _
              rw [HS.out, List.length_append, valsO_append]
              exact HO'.out
            · exact HP.out.drew.trans' HD'.out (fun x hx hh => by have := (HO.out.lt x hh.symm).1; have := HGZ.out; omega)
            · exact (HZ.out.to (Diff.refl wr).drew).diff HD'.out (fun hh => by have := (HO.out.lt _ hh.symm).1; omega)
          case measure => simp [intOf]; omega
      · cases y
        · obtain ⟨v', w', hr, ho', hd', hob⟩ := push_lot (own_pure HO.out (Diff.refl wr).drew) (by have := othL_le L s u k; omega) (by have := HP.out.size; have := HZ.out.lt; exact this) (L.s k) (L.p k)
          have HO' := Lib.hid ho'
          have HD' := Lib.hid hd'
          have hwd : wr.drew.heap.size = wr.heap.size := rfl
          rw [hwd] at hr
          clear ho' hd' hob
          have HS : Hid (L.othL s u (k + 1) = L.othL s u k ++ [k]) := by show _ = _; rw [othL_succ, hx, hy]; rfl
          go_wp2
          go_region
          go_wp2_with (at_builtin; refine Lib.wpList_append_run _ rfl _ _ _ _ rfl _ _ rfl rfl _ _ hr ?_)
          go_roundw
          case rel =>
            refine ⟨k + 1, by omega, by go_num, ?_, ?_, ?_⟩
            · show World.ownsRow _ _ _ _ _ _ _
              rw [HS.out, List.length_append, valsO_append]
              exact HO'.out
            · exact HP.out.drew.trans' HD'.out (fun x hx hh => by have := (HO.out.lt x hh.symm).1; have := HGZ.out; omega)
            · exact (HZ.out.to (Diff.refl wr).drew).diff HD'.out (fun hh => by have := (HO.out.lt _ hh.symm).1; omega)
          case measure => simp [intOf]; omega
        · have HS : Hid (L.othL s u (k + 1) = L.othL s u k) := by show _ = _; rw [othL_succ, hx, hy]; rfl
          go_wp2
          go_region
          go_wp2
          go_roundw
          case rel => exact ⟨k + 1, by omega, by go_num, by rw [HS.out]; exact own_pure HO.out (Diff.refl wr).drew, HP.out.drew, HZ.out.to (Diff.refl wr).drew⟩
          case measure => simp [intOf]; omega
    · obtain rfl : k = m := by omega
      have HE : Hid (L.othL s u k = L.othL s u L.n) := by show _ = _; rw [HM.out]
      rw [HE.out] at HO
      obtain ⟨q', c', rfl, hbn⟩ := sel_own HO.out
      have HBN := Lib.hid hbn
      clear hbn
      go_wp2
      exact bodyPost_ret (v := .slice q' (L.oth s u).n c') (by simp [results, Tryd.results91, go_sem]; try rfl) rfl ⟨⟨q', c', rfl, HBN.out⟩, HP.out⟩
end Go.Proofs.YtgpfmnjianflaaaDoor
