/- Walk of the reference's Corners. -/
import Derived.Test.YtgpfmnjianflaaaDoorR15
set_option linter.unusedSimpArgs false
set_option linter.unusedVariables false
set_option linter.constructorNameAsVariable false
namespace Go.Proofs.YtgpfmnjianflaaaDoor
open Go.RowKit

theorem at_len (L : LT) (c : Nat → Bool) (t i : Nat) : (L.at c t i).length ≤ i := by
  unfold LT.at
  exact Nat.le_trans (List.length_filter_le _ _) (by simp)
theorem below_len (L : LT) (c : Nat → Bool) {b : Nat} (hn : L.n ≤ b) : ∀ t, (L.below c t).length ≤ b * t
  | 0 => Nat.le_refl _
  | t + 1 => by
    have h1 := below_len L c hn t
    have h2 := at_len L c t L.n
    show (L.below c t ++ L.at c t L.n).length ≤ _
    rw [List.length_append, Nat.mul_succ]
    omega
set_option maxRecDepth 20000 in
set_option maxHeartbeats 4000000 in
theorem RCorners_any (w : World) (L : LT) (p : Option Addr) (cap : Nat) (hn : L.n ≤ 1000) (hl : LotsAt w.heap.size w p L) :
    Calls Tryd.prog 39 #[.slice p L.n cap] w fun e w' => (∃ q c, e = .returned (.tuple #[.slice q L.cornersE.length c, .int .i64 (checkL L)]) ∧ RowN w' q L.cornersE) ∧ Pure w w' := by
  have hmx : Tryd.prog.follows .mixedOrders = true := by kernel_rfl
  have HL := Lib.hid hl
  clear hl
  go_enter Tryd.func39, Tryd.ntmps39
  go_wp2_with fail
  refine (RCheckLots_any w L p cap hn HL.out).mono ?_
  rintro e w1 ⟨rfl, hp1⟩
  have HP1 := Lib.hid hp1
  clear hp1
  obtain ⟨c, hc⟩ : ∃ c, checkL L = c := ⟨_, rfl⟩
  have HC := Lib.hid hc
  rw [hc]
  clear hc
  by_cases h0 : c = 0
  · subst h0
    have hok := checkL_ok.1 HC.out
    have HOK := Lib.hid hok
    have HN8 := Lib.hid hok.n8
    have HE : Hid (L.cornersE = L.below L.cornB 101) := by show _ = _; rw [ref_corners hok]; exact if_pos HC.out
    clear hok
    go_wp2_with fail
    go_loopw [4, 5] (fun v t wr => ∃ m : Nat, m ≤ 101 ∧ t = .int .i64 m ∧ Hid (wr.ownsRow w1.heap.size 3 1 v (L.below L.cornB m).length (valsN (L.below L.cornB m))) ∧ Hid (Pure w1 wr)) (fun _ t _ => 101 - (intOf t).toNat)
    case atStart => exact ⟨0, Nat.zero_le _, rfl, World.ownsRow_nil _ _ _ _, Diff.refl _⟩
    case round =>
      obtain ⟨m, hm, rfl, HO, HP⟩ := hrel
      by_cases hlt : m ≤ 100
      · have hmi : (m : Int) ≤ 100 := by omega
        go_wp2_with fail
        go_loopw [4, 6] (fun v i wj => ∃ k : Nat, k ≤ L.n ∧ i = .int .i64 k ∧ Hid (wj.ownsRow w1.heap.size 3 1 v (L.below L.cornB m ++ L.at L.cornB m k).length (valsN (L.below L.cornB m ++ L.at L.cornB m k))) ∧ Hid (Pure w1 wj)) (fun _ i _ => L.n - (intOf i).toNat)
        case atStart =>
          refine ⟨0, Nat.zero_le _, rfl, ?_, HP.out⟩
          have e : L.at L.cornB m 0 = [] := rfl
          show World.ownsRow _ _ _ _ _ _ _
          rw [e, List.append_nil]
          exact HO.out
        case round =>
          obtain ⟨k, hk, rfl, HOJ, HPJ⟩ := hrel
          rename World => wj
          by_cases hkl : k < L.n
          · obtain ⟨b, o, rfl, hb, hc0, hc1⟩ := HL.out k hkl
            have d0 := ((pcell (HP1.out.trans HPJ.out)).1 _ _ hb).trans hc0
            have lb := Nat.lt_of_lt_of_le hb (HP1.out.trans HPJ.out).size
            have hki : (k : Int) < (L.n : Int) := by omega
            have hlen : (L.below L.cornB m ++ L.at L.cornB m k).length ≤ 1000 := by
              have h1 := below_len L L.cornB HN8.out m
              have h2 := at_len L L.cornB m k
              have := HN8.out
              rw [List.length_append]
              omega
            have HLEN := Lib.hid hlen
            clear hc0 hc1 hlen
            by_cases hs : L.s k = (m : Int)
            · have HSK := Lib.hid hs
              rw [hs] at d0
              clear hs
              go_wp2_with fail
              refine (isCorner_any wj L (some ⟨b, o, none⟩) cap k hkl HOK.out.in hn (HL.out.grow (HP1.out.trans HPJ.out))).mono ?_
              rintro e w4 ⟨rfl, hp4⟩
              have HP4 := Lib.hid hp4
              clear hp4 d0 lb
              cases hcb : L.cornB k with
              | false =>
                have HS : Hid (L.at L.cornB m (k + 1) = L.at L.cornB m k) := by show _ = _; rw [at_succ, if_neg (by rw [hcb]; simp)]
                clear hcb
                go_wp2
                go_roundw
                case rel => exact ⟨k + 1, by omega, by go_num, by rw [HS.out]; exact own_pure HOJ.out HP4.out, HPJ.out.trans HP4.out⟩
                case measure => simp [intOf]; omega
              | true =>
                have HS : Hid (L.at L.cornB m (k + 1) = L.at L.cornB m k ++ [k]) := by show _ = _; rw [at_succ, if_pos ⟨HSK.out, hcb⟩]
                clear hcb
                obtain ⟨v', w', hr, ho', hd', hob, -⟩ := push_one 51 3 (.int .i64 0) 8 Tryd.underlying51 (by kernel_rfl) rfl (by omega) (W := w4) (own_pure HOJ.out HP4.out) (by have := HLEN.out; omega) (by have := HPJ.out.size; have := HP4.out.size; omega) (.int .i64 (k : Int)) rfl
                have HO' := Lib.hid ho'
                have HD' := Lib.hid hd'
                clear ho' hd' hob
                go_wp2_with (at_builtin; refine Lib.wpList_append_run _ rfl _ _ _ _ rfl _ _ rfl rfl _ _ hr ?_)
                go_roundw
                case rel =>
                  refine ⟨k + 1, by omega, by go_num, ?_, ?_⟩
                  · rw [HS.out]
                    show World.ownsRow _ _ _ _ _ _ _
                    rw [← List.append_assoc, List.length_append]
                    unfold valsN
                    rw [List.map_append]
                    exact HO'.out
                  · exact (HPJ.out.trans HP4.out).trans' HD'.out (fun x hx hh => by have := (HOJ.out.lt x hh.symm).1; omega)
                case measure => simp [intOf]; omega
            · have HS : Hid (L.at L.cornB m (k + 1) = L.at L.cornB m k) := by show _ = _; rw [at_succ, if_neg (fun h => hs h.1)]
              have hsb : (L.s k == (m : Int)) = false := by simpa using hs
              go_wp2
              go_roundw
              case rel => exact ⟨k + 1, by omega, by go_num, by rw [HS.out]; exact HOJ.out, HPJ.out⟩
              case measure => simp [intOf]; omega
          · obtain rfl : k = L.n := by omega
            go_wp2
            go_roundw
            case rel => exact ⟨m + 1, by omega, by go_num, HOJ.out, HPJ.out⟩
            case measure => simp [intOf]; omega
      · obtain rfl : m = 101 := by omega
        obtain ⟨q', c', rfl, hrn, -⟩ := rowN_own HO.out
        have HRN := Lib.hid hrn
        clear hrn
        go_wp2
        refine bodyPost_ret (v := .tuple #[.slice q' (L.below L.cornB 101).length c', .int .i64 0]) (by simp [results, Tryd.results39, go_sem]) rfl ⟨⟨q', c', by rw [HE.out, HC.out], ?_⟩, HP1.out.trans HP.out⟩
        rw [HE.out]; exact HRN.out
  · have hb : (c != 0) = true := by simpa using h0
    have HE : Hid (L.cornersE = []) := if_neg (by rw [HC.out]; exact h0)
    go_wp2_with fail
    refine (RCheckLots_any w1 L p cap hn (HL.out.grow HP1.out)).mono ?_
    rintro e w2 ⟨rfl, hp2⟩
    have HP2 := Lib.hid (HP1.out.trans hp2)
    rw [HC.out]
    clear hp2
    go_wp2
    refine bodyPost_ret (v := .tuple #[.slice none 0 0, .int .i64 c]) (by simp [results, Tryd.results39, go_sem]) rfl ⟨⟨none, 0, by rw [HE.out, HC.out]; rfl, ?_⟩, HP2.out⟩
    rw [HE.out]
    exact fun k hk => by simp at hk
end Go.Proofs.YtgpfmnjianflaaaDoor
