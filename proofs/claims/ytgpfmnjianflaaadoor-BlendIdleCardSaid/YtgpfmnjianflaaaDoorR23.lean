/- Walks of the law's isList and without. -/
import Derived.Test.YtgpfmnjianflaaaDoorE3
import Derived.Test.YtgpfmnjianflaaaDoorE5
set_option linter.unusedSimpArgs false
set_option linter.unusedVariables false
set_option linter.constructorNameAsVariable false
namespace Go.Proofs.YtgpfmnjianflaaaDoor
open Go.RowKit

set_option maxRecDepth 20000 in
set_option maxHeartbeats 4000000 in
theorem isList_any (w : World) (l : List Nat) (q : Option Addr) (c b : Nat) (hd : Diffs l b) (hn : l.length ≤ 1000) (hb : b ≤ 1000) (hq : RowN w q l) :
    Calls Tryd.prog 54 #[.slice q l.length c, .int .i64 (b : Int)] w fun e w' => e = .returned (.bool true) ∧ Pure w w' := by
  have hmx : Tryd.prog.follows .mixedOrders = true := by kernel_rfl
  have HQ := Lib.hid hq
  have HD := Lib.hid hd
  clear hq hd
  obtain ⟨n, hnn⟩ : ∃ n, l.length = n := ⟨_, rfl⟩
  have HN := Lib.hid hnn
  rw [hnn] at hn ⊢
  clear hnn
  go_enter Tryd.func54, Tryd.ntmps54
  go_wp2_with fail
  go_loopw [5] (fun i wr => ∃ k : Nat, k ≤ n ∧ i = .int .i64 k ∧ Hid (Pure w wr)) (fun i _ => n - (intOf i).toNat)
  case atStart => exact ⟨0, Nat.zero_le _, rfl, Diff.refl w⟩
  case round =>
    obtain ⟨k, hk, rfl, HP⟩ := hrel
    by_cases hlt : k < n
    · obtain ⟨x, hx⟩ : ∃ x, nthN l k = x := ⟨_, rfl⟩
      have HX := Lib.hid hx
      obtain ⟨bb, o, rfl, hbb, hc⟩ := HQ.out k (by rw [HN.out]; exact hlt)
      have hc' : w.cell? ⟨bb, o + k, none⟩ = some (.int .i64 (x : Int)) := by rw [← hx]; exact hc
      have HB := Lib.hid hbb
      have HC := Lib.hid hc'
      have d0 := ((pcell HP.out).1 _ _ hbb).trans hc'
      have lb := Nat.lt_of_lt_of_le hbb HP.out.size
      have hki : (k : Int) < (n : Int) := by omega
      have hxb : x < b := by rw [← hx]; exact HD.out.1 _ (nthN_mem (by rw [HN.out]; exact hlt))
      have hx0 : ¬ (x : Int) < 0 := by omega
      have hx1 : ¬ (b : Int) ≤ (x : Int) := by omega
      clear hc hc' hbb hx
      go_wp2_with fail
      clear d0 lb hx0 hx1
      go_loopw [6] (fun j wv => ∃ i : Nat, i ≤ k ∧ j = .int .i64 i ∧ Hid (Pure w wv)) (fun j _ => k - (intOf j).toNat)
      case atStart => exact ⟨0, Nat.zero_le _, rfl, HP.out⟩
      case round =>
        obtain ⟨i, hi, rfl, HPv⟩ := hrel
        by_cases hlt2 : i < k
        · obtain ⟨y, hy⟩ : ∃ y, nthN l i = y := ⟨_, rfl⟩
          obtain ⟨b2, o2, he, -, hc2⟩ := HQ.out i (by rw [HN.out]; omega)
          cases he
          have hc2' : w.cell? ⟨bb, o + i, none⟩ = some (.int .i64 (y : Int)) := by rw [← hy]; exact hc2
          have d0 := ((pcell HPv.out).1 _ _ HB.out).trans HC.out
          have d1 := ((pcell HPv.out).1 _ _ HB.out).trans hc2'
          have lb := Nat.lt_of_lt_of_le HB.out HPv.out.size
          have hki : (k : Int) < (n : Int) := by omega
          have hii : (i : Int) < (k : Int) := by omega
          have hin : (i : Int) < (n : Int) := by omega
          have hne : ¬ (y : Int) = (x : Int) := by
            have h := HD.out.2 k i (by rw [HN.out]; exact hlt) hlt2
            rw [HX.out, hy] at h
            omega
          have hne2 : ¬ y = x := by omega
          clear hc2 hc2' hy
          go_wp2_with fail
          go_region
          go_wp2_with fail
          go_roundw
          case rel => exact ⟨i + 1, by omega, by go_num, HPv.out.trans (Diff.refl _).drew⟩
          case measure => simp [intOf]; omega
        · have hii : ¬ (i : Int) < (k : Int) := by omega
          go_wp2_with fail
          go_roundw
          case rel => exact ⟨k + 1, by omega, by go_num, HPv.out⟩
          case measure => simp [intOf]; omega
    · obtain rfl : k = n := by omega
      go_wp2
      exact bodyPost_ret (v := .bool true) (by simp [results, Tryd.results54, go_sem]) rfl ⟨rfl, HP.out⟩
def inTo (l : List Nat) (k : Nat) : Nat → Bool
  | 0 => false
  | i + 1 => inTo l k i || decide (nthN l i = k)
theorem inTo_iff (l : List Nat) (k : Nat) : ∀ i, inTo l k i = true ↔ ∃ j, j < i ∧ nthN l j = k
  | 0 => ⟨fun h => Bool.noConfusion h, fun ⟨_, h, _⟩ => by omega⟩
  | i + 1 => by
    unfold inTo
    rw [Bool.or_eq_true, inTo_iff l k i, decide_eq_true_eq]
    constructor
    · rintro (⟨j, h1, h2⟩ | h)
      · exact ⟨j, by omega, h2⟩
      · exact ⟨i, by omega, h⟩
    · rintro ⟨j, h1, h2⟩
      by_cases e : j = i
      · subst e; exact .inr h2
      · exact .inl ⟨j, by omega, h2⟩
theorem inTo_all (l : List Nat) (k : Nat) : inTo l k l.length = l.contains k := by
  cases h : l.contains k
  · cases h2 : inTo l k l.length
    · rfl
    · obtain ⟨j, hj, e⟩ := (inTo_iff l k _).1 h2
      have hm := nthN_mem hj
      rw [e] at hm
      have : l.contains k = true := by simpa using hm
      rw [h] at this; cases this
  · obtain ⟨j, hj, e⟩ := nthN_of_mem (show k ∈ l by simpa using h)
    exact (inTo_iff l k _).2 ⟨j, hj, e⟩
set_option maxRecDepth 20000 in
set_option maxHeartbeats 4000000 in
theorem without_any (w : World) (L : LT) (p : Option Addr) (cap : Nat) (l : List Nat) (q : Option Addr) (c : Nat) (hL : L.n ≤ 1000) (hn : l.length ≤ 1000) (hl : LotsAt w.heap.size w p L) (hq : RowN w q l) :
    Calls Tryd.prog 55 #[.slice p L.n cap, .slice q l.length c] w fun e w' => (∃ r d, e = .returned (.slice r (LT.outL l L.n).length d) ∧ LotsAt w'.heap.size w' r (L.sel (LT.outL l L.n))) ∧ Pure w w' := by
  have hmx : Tryd.prog.follows .mixedOrders = true := by kernel_rfl
  have HQ := Lib.hid hq
  have HL := Lib.hid hl
  clear hq hl
  obtain ⟨n, hnn⟩ : ∃ n, l.length = n := ⟨_, rfl⟩
  have HN := Lib.hid hnn
  rw [hnn] at hn ⊢
  obtain ⟨m, hmm⟩ : ∃ m, L.n = m := ⟨_, rfl⟩
  have HM := Lib.hid hmm
  rw [hmm] at hL ⊢
  clear hnn hmm
  go_enter Tryd.func55, Tryd.ntmps55
  go_wp2_with fail
  go_loopw [5, 6] (fun v i wr => ∃ k : Nat, k ≤ m ∧ i = .int .i64 k ∧ Hid (wr.ownsRow w.heap.size 71 2 v (LT.outL l k).length (valsO L (LT.outL l k))) ∧ Hid (Pure w wr)) (fun _ i _ => m - (intOf i).toNat)
  case atStart => exact ⟨0, Nat.zero_le _, rfl, World.ownsRow_nil _ _ _ _, Diff.refl w⟩
  case round =>
    obtain ⟨k, hk, rfl, HO, HP⟩ := hrel
    by_cases hlt : k < m
    · have hki : (k : Int) < (m : Int) := by omega
      go_wp2_with fail
      go_loopw [7, 8] (fun bv j wv => ∃ i : Nat, i ≤ n ∧ j = .int .i64 i ∧ bv = .bool (inTo l k i) ∧ Hid (Pure wr wv)) (fun _ j _ => n - (intOf j).toNat)
      case atStart => exact ⟨0, Nat.zero_le _, rfl, rfl, Diff.refl wr⟩
      case round =>
        obtain ⟨i, hi, rfl, rfl, HPv⟩ := hrel
        by_cases hlt2 : i < n
        · obtain ⟨x, hx⟩ : ∃ x, nthN l i = x := ⟨_, rfl⟩
          obtain ⟨bb, o, rfl, hbb, hc⟩ := HQ.out i (by rw [HN.out]; exact hlt2)
          have hc' : w.cell? ⟨bb, o + i, none⟩ = some (.int .i64 (x : Int)) := by rw [← hx]; exact hc
          have hpp : Pure w _ := HP.out.trans HPv.out
          have d0 := ((pcell hpp).1 _ _ hbb).trans hc'
          have lb := Nat.lt_of_lt_of_le hbb hpp.size
          have hin : (i : Int) < (n : Int) := by omega
          have HS : Hid (inTo l k (i + 1) = (inTo l k i || decide (x = k))) := by show (inTo l k i || decide (nthN l i = k)) = _; rw [hx]
          clear hc hc' hx hpp hbb
          obtain ⟨z, hz⟩ : ∃ z, inTo l k i = z := ⟨_, rfl⟩
          rw [hz] at HS ⊢
          clear hz
          cases z
          · by_cases hxk : x = k
            · subst hxk
              go_wp2_with fail
              go_roundw
              case rel => exact ⟨i + 1, by omega, by go_num, by rw [HS.out]; simp, HPv.out⟩
              case measure => simp [intOf]; omega
            · have hxk2 : ¬ (x : Int) = (k : Int) := by omega
              go_wp2_with fail
              go_roundw
              case rel => exact ⟨i + 1, by omega, by go_num, by rw [HS.out]; simp [hxk]; try omega, HPv.out⟩
              case measure => simp [intOf]; omega
          · go_wp2_with fail
            go_roundw
            case rel => exact ⟨i + 1, by omega, by go_num, by rw [HS.out]; simp, HPv.out⟩
            case measure => simp [intOf]; omega
        · obtain rfl : i = n := by omega
          have HA : Hid (inTo l k i = l.contains k) := by show _ = _; rw [← inTo_all, HN.out]
          have HS := Lib.hid (outL_succ l k)
          obtain ⟨z, hz⟩ : ∃ z, inTo l k i = z := ⟨_, rfl⟩
          rw [hz] at HA ⊢
          rw [← HA.out] at HS
          clear hz
          have HPx := Lib.hid (HP.out.trans HPv.out)
          cases z
          · obtain ⟨b3, o3, rfl, hb3, e0, e1⟩ := HL.out k (by rw [HM.out]; exact hlt)
            have d0 := ((pcell HPx.out).1 _ _ hb3).trans e0
            have d1 := ((pcell HPx.out).1 _ _ hb3).trans e1
            have lb := Nat.lt_of_lt_of_le hb3 HPx.out.size
            obtain ⟨v', w', hr, ho', hd', hob⟩ := push_lot (own_pure HO.out HPv.out) (by have := outL_le l k; omega) HPx.out.size (L.s k) (L.p k)
            have HO' := Lib.hid ho'
            have HP' : Hid (Pure w w') := HPx.out.trans' hd' (fun x hx hh => by have := (HO.out.lt x hh.symm).1; omega)
            clear ho' hd' hob e0 e1 hb3
            go_wp2_with (at_builtin; refine Lib.wpList_append_run _ rfl _ _ _ _ rfl _ _ rfl rfl _ _ hr ?_)
            go_roundw
            case rel =>
              refine ⟨k + 1, by omega, by go_num, ?_, HP'.out⟩
              show World.ownsRow _ _ _ _ _ _ _
              rw [HS.out, if_neg (by decide), List.length_append, valsO_append]
              exact HO'.out
            case measure => simp [intOf]; omega
          · go_wp2_with fail
            go_roundw
            case rel =>
              refine ⟨k + 1, by omega, by go_num, ?_, HPx.out⟩
              show World.ownsRow _ _ _ _ _ _ _
              rw [HS.out, if_pos rfl]
              exact own_pure HO.out HPv.out
            case measure => simp [intOf]; omega
    · obtain rfl : k = m := by omega
      obtain ⟨q', c', rfl, hbn⟩ := sel_own HO.out
      have HBN := Lib.hid hbn
      clear hbn
      go_wp2
      refine bodyPost_ret (v := .slice q' (LT.outL l k).length c') (by simp [results, Tryd.results55, go_sem]; try rfl) rfl ⟨?_, HP.out⟩
      have hBN : LotsAt wr.heap.size wr q' (L.sel (LT.outL l k)) := HBN.out
      first | exact ⟨q', ⟨c', rfl⟩, hBN⟩ | exact ⟨q', c', rfl, hBN⟩
end Go.Proofs.YtgpfmnjianflaaaDoor
