/- Walk of the reference's Idle. -/
import Derived.Test.YtgpfmnjianflaaaDoorR16
set_option linter.unusedSimpArgs false
set_option linter.unusedVariables false
set_option linter.constructorNameAsVariable false
namespace Go.Proofs.YtgpfmnjianflaaaDoor
open Go.RowKit

theorem idB_ref {L : LT} (hok : L.Ok) {i : Nat} (hi : i < L.n) : L.idB (L.s i) (L.p i) = decide ((L.refC (L.s i)).1 * 1 < L.p i * (L.refC (L.s i)).2) := by
  have ht : 0 ≤ L.s i ∧ L.s i ≤ 100 := ⟨hok.s0 i hi, hok.s1 i hi⟩
  have h1 := refC_cheap hok ht
  have h2 : cheapP L (L.s i) = L.tar (L.s i).toNat := by unfold cheapP; rw [if_pos (sharpE_ok.2 ⟨hok, ht⟩)]
  have hden : 0 < (L.refC (L.s i)).2 := by
    rcases refC_is L (L.s i) with ⟨_, h⟩ | ⟨_, h, _⟩
    · exact absurd ⟨⟨i, hi, Int.le_refl _⟩, i, hi, Int.le_refl _⟩ h
    · exact h.den
  unfold LT.idB
  rw [← h2, ← h1]
  have h := chB_pos (a := (L.refC (L.s i)).1) (b := (L.refC (L.s i)).2) (c := L.p i) (d := 1) hden Int.zero_lt_one
  cases hc : chB (L.refC (L.s i)).1 (L.refC (L.s i)).2 (L.p i) 1
  · have : ¬ ((L.refC (L.s i)).1 * 1 < L.p i * (L.refC (L.s i)).2) := fun hh => by rw [h.2 hh] at hc; cases hc
    exact (decide_eq_false this).symm
  · exact (decide_eq_true (h.1 hc)).symm
set_option maxRecDepth 20000 in
set_option maxHeartbeats 4000000 in
theorem RIdle_any (w : World) (L : LT) (p : Option Addr) (cap : Nat) (hn : L.n ≤ 1000) (hl : LotsAt w.heap.size w p L) :
    Calls Tryd.prog 41 #[.slice p L.n cap] w fun e w' => (∃ q c, e = .returned (.tuple #[.slice q L.idleE.length c, .int .i64 (checkL L)]) ∧ RowN w' q L.idleE) ∧ Pure w w' := by
  have hmx : Tryd.prog.follows .mixedOrders = true := by kernel_rfl
  have HL := Lib.hid hl
  clear hl
  go_enter Tryd.func41, Tryd.ntmps41
  go_wp2_with fail
  refine (RCheckLots_any w L p cap hn HL.out).mono ?_
  rintro e w1 ⟨rfl, hp1⟩
  have HP1 := Lib.hid hp1
  clear hp1
  obtain ⟨c, hc⟩ : ∃ c, checkL L = c := ⟨_, rfl⟩
  have HC := Lib.hid hc
  rw [hc]
  clear hc
  by_cases h0 : c = 0
  · subst h0
    have hok := checkL_ok.1 HC.out
    have HOK := Lib.hid hok
    have HN8 := Lib.hid hok.n8
    have HE : Hid (L.idleE = L.idleL L.n) := if_pos HC.out
    clear hok
    go_wp2_with fail
    go_loopw [4, 5] (fun v i wr => ∃ k : Nat, k ≤ L.n ∧ i = .int .i64 k ∧ Hid (wr.ownsRow w1.heap.size 3 1 v (L.idleL k).length (valsN (L.idleL k))) ∧ Hid (Pure w1 wr)) (fun _ i _ => L.n - (intOf i).toNat)
    case atStart => exact ⟨0, Nat.zero_le _, rfl, World.ownsRow_nil _ _ _ _, Diff.refl _⟩
    case round =>
      obtain ⟨k, hk, rfl, HO, HP⟩ := hrel
      by_cases hlt : k < L.n
      · obtain ⟨b, o, rfl, hb, hc0, hc1⟩ := HL.out k hlt
        have HB := Lib.hid (Nat.lt_of_lt_of_le hb (HP1.out.trans HP.out).size)
        have d0 := ((pcell (HP1.out.trans HP.out)).1 _ _ hb).trans hc0
        have D1 := Lib.hid (((pcell (HP1.out.trans HP.out)).1 _ _ hb).trans hc1)
        have lb := HB.out
        have hki : (k : Int) < (L.n : Int) := by omega
        have HIS : Hid ((0 ≤ L.s k ∧ L.s k ≤ 100) ∧ 0 ≤ L.p k ∧ L.p k ≤ 1000) := HOK.out.in k hlt
        have hid := idB_ref HOK.out hlt
        have hlen := idleL_length L k
        have HLEN := Lib.hid hlen
        clear hb hc0 hc1 hlen
        go_wp2_with fail
        refine (RCheapestOf_any wr L (some ⟨b, o, none⟩) cap (L.s k) HIS.out.1 HOK.out.in hn (HL.out.grow (HP1.out.trans HP.out))).mono ?_
        rintro e w4 ⟨rfl, hp4⟩
        have HR0 : Hid (((0 ≤ (L.refC (L.s k)).1 ∧ (L.refC (L.s k)).1 ≤ 100000) ∧ 0 ≤ (L.refC (L.s k)).2 ∧ (L.refC (L.s k)).2 ≤ 100)) := refC_small HOK.out.in _
        obtain ⟨a1, ha1⟩ : ∃ z, (L.refC (L.s k)).1 = z := ⟨_, rfl⟩
        obtain ⟨a2, ha2⟩ : ∃ z, (L.refC (L.s k)).2 = z := ⟨_, rfl⟩
        rw [ha1, ha2] at HR0 hid ⊢
        clear ha1 ha2
        have HID := Lib.hid hid
        obtain ⟨h1, hh1⟩ : ∃ z, hasB a1 a2 = z := ⟨_, rfl⟩
        rw [hh1]
        clear hh1 hid
        have HP4 := Lib.hid hp4
        clear hp4 d0 lb
        have d1 := ((pcell HP4.out).1 _ _ HB.out).trans D1.out
        have lb := Nat.lt_of_lt_of_le HB.out HP4.out.size
        go_wp2_with fail
        obtain ⟨X, hX⟩ : ∃ V : World, w4.alloc (.cells #[.int .i64 a1, .int .i64 a2] 29) = V := ⟨_, rfl⟩
        have hkb : Blk w4.heap.size 29 #[.int .i64 a1, .int .i64 a2] X := by rw [← hX]; exact Blk.new _ _ _
        have hpx : Pure w4 X := by rw [← hX]; exact (Diff.refl _).alloc _
        rw [hX]
        have HK := Lib.hid hkb
        have HPX := Lib.hid (HP4.out.trans hpx)
        clear hX hkb hpx d1 lb
        obtain ⟨g1, hg1⟩ : ∃ g, w4.heap.size = g := ⟨_, rfl⟩
        rw [hg1] at HK ⊢
        clear hg1
        have e1 := ((pcell HPX.out).1 _ _ HB.out).trans D1.out
        have lb := Nat.lt_of_lt_of_le HB.out HPX.out.size
        go_wp2_with fail
        obtain ⟨dd, hdd⟩ : ∃ z, decide (a1 * 1 < L.p k * a2) = z := ⟨_, rfl⟩
        have HDD := Lib.hid hdd
        clear hdd
        refine reg_invW (fun d a W => a = { tmps := #[Value.slice (some { block := b, off := o }) L.n cap, undef, Value.slice none 0 0, Value.int IntKind.i64 0, u4, Value.int IntKind.i64 (k : Int), Value.pointer (some { block := g1, off := 0 }), Value.bool h1, Value.slice (some { block := b, off := o }) L.n cap, Value.int IntKind.i64 0, Value.bool false, undef, undef, Value.int IntKind.i64 (k : Int), Value.slice (some { block := b, off := o }) L.n cap, Value.int IntKind.i64 (L.n : Int), Value.bool true, u17, u18, Value.tuple #[Value.agg #[Value.int IntKind.i64 a1, Value.int IntKind.i64 a2], Value.bool h1], Value.slice (some { block := b, off := o }) L.n cap, Value.slice (some { block := b, off := o }) L.n cap, Value.int IntKind.i64 (k : Int), Value.pointer (some { block := b, off := o + k * 2 }), Value.pointer (some { block := b, off := o + k * 2 }), Value.int IntKind.i64 (L.s k), Value.tuple #[Value.agg #[Value.int IntKind.i64 a1, Value.int IntKind.i64 a2], Value.bool h1], Value.agg #[Value.int IntKind.i64 a1, Value.int IntKind.i64 a2], Value.bool h1, (bif d 0 then Value.agg #[Value.int IntKind.i64 (a1), Value.int IntKind.i64 (a2)] else u29), (bif d 1 then Value.slice (some { block := b, off := o }) L.n cap else u30), (bif d 2 then Value.int IntKind.i64 (k : Nat) else u31), (bif d 3 then Value.pointer (some { block := b, off := o + k * 2 }) else u32), (bif d 4 then Value.pointer (some { block := b, off := o + k * 2 + 1 }) else u33), (bif d 5 then Value.int IntKind.i64 (L.p k) else u34), (bif d 6 then Value.agg #[Value.int IntKind.i64 (L.p k), Value.int IntKind.i64 (1)] else u35), (bif d 7 then Value.bool dd else u36), u37, u38, u39, u40, undef], defers := [] } ∧ Pure X W) hmx (by kernel_rfl) ?_ ?_ ?_
        · exact ⟨rfl, (Diff.refl _).drew⟩
        · refine ⟨?_, ?_, ?_, ?_, ?_, ?_, ?_, ?_, trivial⟩
          · rintro d a W hdi hdep hcl ⟨rfl, hw⟩ K hK
            have E := hcl.facts 0 hdi rfl hdep [] [7] (by kernel_rfl) (by kernel_rfl)
            simp only [AllT, AllF] at E
            clear hdi hdep hcl
            have z := HK.out.to hw
            have z0 := z.at 0
            have z1 := z.at 1
            have zl := z.lt
            clear z
            go_simp
            exact hK _ _ ⟨by simp [upd, E], hw⟩
          · rintro d a W hdi hdep hcl ⟨rfl, hw⟩ K hK
            have E := hcl.facts 1 hdi rfl hdep [] [3, 4, 5, 6, 7] (by kernel_rfl) (by kernel_rfl)
            simp only [AllT, AllF] at E
            clear hdi hdep hcl
            go_simp
            exact hK _ _ ⟨by simp [upd, E], hw⟩
          · rintro d a W hdi hdep hcl ⟨rfl, hw⟩ K hK
            have E := hcl.facts 2 hdi rfl hdep [] [3, 4, 5, 6, 7] (by kernel_rfl) (by kernel_rfl)
            simp only [AllT, AllF] at E
            clear hdi hdep hcl
            go_simp
            exact hK _ _ ⟨by simp [upd, E], hw⟩
          · rintro d a W hdi hdep hcl ⟨rfl, hw⟩ K hK
            have E := hcl.facts 3 hdi rfl hdep [1, 2] [4, 5, 6, 7] (by kernel_rfl) (by kernel_rfl)
            simp only [AllT, AllF] at E
            clear hdi hdep hcl
            go_simp
            exact hK _ _ ⟨by simp [upd, E], hw⟩
          · rintro d a W hdi hdep hcl ⟨rfl, hw⟩ K hK
            have E := hcl.facts 4 hdi rfl hdep [1, 2, 3] [5, 6, 7] (by kernel_rfl) (by kernel_rfl)
            simp only [AllT, AllF] at E
            clear hdi hdep hcl
            go_simp
            exact hK _ _ ⟨by simp [upd, E], hw⟩
          · rintro d a W hdi hdep hcl ⟨rfl, hw⟩ K hK
            have E := hcl.facts 5 hdi rfl hdep [1, 2, 3, 4] [6, 7] (by kernel_rfl) (by kernel_rfl)
            simp only [AllT, AllF] at E
            clear hdi hdep hcl
            have z1 := ((pcell hw).1 _ _ lb).trans e1
            go_simp
            exact hK _ _ ⟨by simp [upd, E], hw⟩
          · rintro d a W hdi hdep hcl ⟨rfl, hw⟩ K hK
            have E := hcl.facts 6 hdi rfl hdep [1, 2, 3, 4, 5] [7] (by kernel_rfl) (by kernel_rfl)
            simp only [AllT, AllF] at E
            clear hdi hdep hcl
            go_simp
            refine Calls.mono (RBy_any W (L.p k) 1 ⟨by have := HIS.out; omega, by have := HIS.out; omega⟩ ⟨by omega, by omega⟩) ?_
            rw [(red_one (L.p k)).1, (red_one (L.p k)).2]
            rintro e w9 ⟨rfl, hp9⟩
            exact hK _ _ ⟨by simp [upd, E], hw.trans hp9⟩
          · rintro d a W hdi hdep hcl ⟨rfl, hw⟩ K hK
            have E := hcl.facts 7 hdi rfl hdep [0, 1, 2, 3, 4, 5, 6] [] (by kernel_rfl) (by kernel_rfl)
            simp only [AllT, AllF] at E
            clear hdi hdep hcl
            go_simp
            refine Calls.mono (RLess_any W a1 a2 (L.p k) 1 ⟨by have := HR0.out; omega, by have := HR0.out; omega⟩ ⟨by have := HR0.out; omega, by have := HR0.out; omega⟩ ⟨by have := HIS.out; omega, by have := HIS.out; omega⟩ ⟨by omega, by omega⟩) ?_
            rw [HDD.out]
            rintro e w9 ⟨rfl, hp9⟩
            exact hK _ _ ⟨by simp [upd, E], hw.trans hp9⟩
        · rintro d a W hall ⟨rfl, hw⟩
          have E := AllT.all hall [0, 1, 2, 3, 4, 5, 6, 7] (by kernel_rfl)
          simp only [AllT] at E
          simp only [E, cond_true] at hw ⊢
          clear E hall
          have HPW := Lib.hid (HPX.out.trans hw)
          clear hw e1 lb
          cases dd with
          | false =>
            have HS : Hid (L.idleL (k + 1) = L.idleL k) := by show _ = _; rw [idleL_succ, if_neg (by rw [HID.out, HDD.out]; simp)]
            go_wp2
            go_roundw
            case rel => exact ⟨k + 1, by omega, by go_num, by rw [HS.out]; exact own_pure HO.out HPW.out, HP.out.trans HPW.out⟩
            case measure => simp [intOf]; omega
          | true =>
            have HS : Hid (L.idleL (k + 1) = L.idleL k ++ [k]) := by show _ = _; rw [idleL_succ, if_pos (by rw [HID.out, HDD.out])]
            obtain ⟨v', w', hr, ho', hd', hob, -⟩ := push_one 51 3 (.int .i64 0) 8 Tryd.underlying51 (by kernel_rfl) rfl (by omega) (W := W) (own_pure HO.out HPW.out) (by have := HLEN.out; omega) (by have := HP.out.size; have := HPW.out.size; omega) (.int .i64 (k : Int)) rfl
            have HO' := Lib.hid ho'
            have HD' := Lib.hid hd'
            clear ho' hd' hob
            go_wp2_with (at_builtin; refine Lib.wpList_append_run _ rfl _ _ _ _ rfl _ _ rfl rfl _ _ hr ?_)
            go_roundw
            case rel =>
              refine ⟨k + 1, by omega, by go_num, ?_, ?_⟩
              · rw [HS.out]
                show World.ownsRow _ _ _ _ _ _ _
                rw [List.length_append]
                unfold valsN
                rw [List.map_append]
                exact HO'.out
              · exact (HP.out.trans HPW.out).trans' HD'.out (fun x hx hh => by have := (HO.out.lt x hh.symm).1; omega)
            case measure => simp [intOf]; omega
      · obtain rfl : k = L.n := by omega
        obtain ⟨q', c', rfl, hrn, -⟩ := rowN_own HO.out
        have HRN := Lib.hid hrn
        clear hrn
        go_wp2
        refine bodyPost_ret (v := .tuple #[.slice q' (L.idleL L.n).length c', .int .i64 0]) (by simp [results, Tryd.results41, go_sem]) rfl ⟨⟨q', c', by rw [HE.out, HC.out], ?_⟩, HP1.out.trans HP.out⟩
        rw [HE.out]; exact HRN.out
  · have hb : (c != 0) = true := by simpa using h0
    have HE : Hid (L.idleE = []) := if_neg (by rw [HC.out]; exact h0)
    go_wp2_with fail
    refine (RCheckLots_any w1 L p cap hn (HL.out.grow HP1.out)).mono ?_
    rintro e w2 ⟨rfl, hp2⟩
    have HP2 := Lib.hid (HP1.out.trans hp2)
    rw [HC.out]
    clear hp2
    go_wp2
    refine bodyPost_ret (v := .tuple #[.slice none 0 0, .int .i64 c]) (by simp [results, Tryd.results41, go_sem]) rfl ⟨⟨none, 0, by rw [HE.out, HC.out]; rfl, ?_⟩, HP2.out⟩
    rw [HE.out]
    exact fun k hk => by simp at hk
end Go.Proofs.YtgpfmnjianflaaaDoor
