/- Walk of BlendCorners. -/
import Derived.Test.YtgpfmnjianflaaaDoorH1
import Derived.Test.YtgpfmnjianflaaaDoorR17
set_option linter.unusedSimpArgs false
set_option linter.unusedVariables false
set_option linter.constructorNameAsVariable false
namespace Go.Proofs.YtgpfmnjianflaaaDoor
open Go.RowKit

theorem intsB_self (f : Nat → Int) (n : Nat) : intsB f f n n = true := by unfold intsB eqTo; simp
theorem cornersE_len (L : LT) : L.cornersE.length ≤ 1000 := by
  by_cases h : checkL L = 0
  · have hok := checkL_ok.1 h
    have e : L.cornersE = L.corners := if_pos h
    have := below_len L L.cornB hok.n8 101
    rw [e, ← ref_corners hok]
    omega
  · have e : L.cornersE = [] := if_neg h
    rw [e]; exact Nat.zero_le _
theorem idleE_len {L : LT} (hn : L.n ≤ 1000) : L.idleE.length ≤ 1000 := by
  by_cases h : checkL L = 0
  · have e : L.idleE = L.idleL L.n := if_pos h
    have := idleL_length L L.n
    rw [e]; omega
  · have e : L.idleE = [] := if_neg h
    rw [e]; exact Nat.zero_le _
set_option maxRecDepth 20000 in
set_option maxHeartbeats 4000000 in
theorem CornersLaw_any (w : World) (L : LT) (p : Option Addr) (cap : Nat) (t l : Int) (hl : LotsAt w.heap.size w p L) (_h4 : (Lit.int .i64 t).wf = true) (_h5 : (Lit.int .i64 l).wf = true) (hg : Gl w) :
    Calls Tryd.prog 6 #[.slice p L.n cap, .int .i64 t, .int .i64 l] w fun e w' => e = .returned (.bool true) ∧ Pure w w' := by
  have hmx : Tryd.prog.follows .mixedOrders = true := by kernel_rfl
  have HG := Lib.hid hg
  have HL := Lib.hid hl
  clear hg hl
  go_enter Tryd.func6, Tryd.ntmps6
  go_wp2_with fail
  refine (great_any w L p cap).mono ?_
  rintro e w1 ⟨rfl, hp1⟩
  have HP1 := Lib.hid hp1
  have HG1 := Lib.hid (HG.out.to HP1.out)
  have HL1 := Lib.hid (HL.out.to HP1.out)
  clear hp1
  by_cases h14 : 14 < L.n
  · have hb : decide (14 < L.n) = true := by simpa using h14
    rw [hb]
    go_wp2_with fail
    refine (Works_any w1 HG1.out).mono ?_
    rintro e w9 ⟨rfl, hp9⟩
    have HP9 := Lib.hid (HP1.out.trans hp9)
    clear hp9
    go_wp2
    exact bodyPost_ret (v := .bool true) (by simp [results, Tryd.results6, go_sem]) rfl ⟨rfl, HP9.out⟩
  · have hb : decide (14 < L.n) = false := by simpa using h14
    rw [hb]
    have hLn : L.n ≤ 1000 := by omega
    have hcl := cornersE_len L
    have hil := idleE_len hLn
    obtain ⟨lc, hlc⟩ : ∃ z, L.cornersE = z := ⟨_, rfl⟩
    obtain ⟨li, hli⟩ : ∃ z, L.idleE = z := ⟨_, rfl⟩
    obtain ⟨ck, hck⟩ : ∃ z, checkL L = z := ⟨_, rfl⟩
    obtain ⟨lv, hlv⟩ : ∃ z, lastV L t l = z := ⟨_, rfl⟩
    obtain ⟨le, hle⟩ : ∃ z, lastE L t l = z := ⟨_, rfl⟩
    rw [hlc] at hcl
    rw [hli] at hil
    have HLC := Lib.hid hlc
    have HLI := Lib.hid hli
    have HCK := Lib.hid hck
    have HLV := Lib.hid hlv
    have HLE := Lib.hid hle
    have HCL := Lib.hid hcl
    have HIL := Lib.hid hil
    clear hlc hli hck hlv hle hcl hil
    go_wp2_with fail
    refine (twinLots_any w1 L p cap hLn HL1.out).mono ?_
    rintro e v0 ⟨⟨p2, c2, rfl, hx⟩, hp⟩
    have HP_0 := Lib.hid (HP1.out.trans hp)
    have HW_0 := Lib.hid (HG1.out.to hp)
    have L_0 := Lib.hid (HL1.out.to hp)
    have L2_0 := Lib.hid hx
    clear hp hx HP1 HG1 HL1
    go_wp2_with fail
    refine (Corners_any v0 L p2 c2 hLn L2_0.out HW_0.out).mono ?_
    rintro e v1 ⟨⟨qA, dA, rfl, hx⟩, hp⟩
    have HP_1 := Lib.hid (HP_0.out.trans hp)
    have HW_1 := Lib.hid (HW_0.out.to hp)
    have L_1 := Lib.hid (L_0.out.to hp)
    have L2_1 := Lib.hid (L2_0.out.to hp)
    have A_1 := Lib.hid hx
    clear hp hx HP_0 HW_0 L_0 L2_0
    rw [HLC.out] at A_1 ⊢
    rw [HCK.out]
    go_wp2_with fail
    refine (RCorners_any v1 L p cap hLn L_1.out).mono ?_
    rintro e v2 ⟨⟨qB, dB, rfl, hx⟩, hp⟩
    have HP_2 := Lib.hid (HP_1.out.trans hp)
    have HW_2 := Lib.hid (HW_1.out.to hp)
    have L_2 := Lib.hid (L_1.out.to hp)
    have L2_2 := Lib.hid (L2_1.out.to hp)
    have A_2 := Lib.hid (A_1.out.to hp)
    have B_2 := Lib.hid hx
    clear hp hx HP_1 HW_1 L_1 L2_1 A_1
    rw [HLC.out] at B_2 ⊢
    rw [HCK.out]
    go_wp2_with fail
    refine (Idle_any v2 L p2 c2 hLn L2_2.out HW_2.out).mono ?_
    rintro e v3 ⟨⟨qC, dC, rfl, hx⟩, hp⟩
    have HP_3 := Lib.hid (HP_2.out.trans hp)
    have HW_3 := Lib.hid (HW_2.out.to hp)
    have L_3 := Lib.hid (L_2.out.to hp)
    have L2_3 := Lib.hid (L2_2.out.to hp)
    have A_3 := Lib.hid (A_2.out.to hp)
    have B_3 := Lib.hid (B_2.out.to hp)
    have C_3 := Lib.hid hx
    clear hp hx HP_2 HW_2 L_2 L2_2 A_2 B_2
    rw [HLI.out] at C_3 ⊢
    rw [HCK.out]
    go_wp2_with fail
    refine (RIdle_any v3 L p cap hLn L_3.out).mono ?_
    rintro e v4 ⟨⟨qD, dD, rfl, hx⟩, hp⟩
    have HP_4 := Lib.hid (HP_3.out.trans hp)
    have HW_4 := Lib.hid (HW_3.out.to hp)
    have L_4 := Lib.hid (L_3.out.to hp)
    have L2_4 := Lib.hid (L2_3.out.to hp)
    have A_4 := Lib.hid (A_3.out.to hp)
    have B_4 := Lib.hid (B_3.out.to hp)
    have C_4 := Lib.hid (C_3.out.to hp)
    have D_4 := Lib.hid hx
    clear hp hx HP_3 HW_3 L_3 L2_3 A_3 B_3 C_3
    rw [HLI.out] at D_4 ⊢
    rw [HCK.out]
    go_wp2_with fail
    refine (Last_any v4 L p2 c2 t l hLn L2_4.out HW_4.out).mono ?_
    rintro e v5 ⟨rfl, hp⟩
    have HP_5 := Lib.hid (HP_4.out.trans hp)
    have HW_5 := Lib.hid (HW_4.out.to hp)
    have L_5 := Lib.hid (L_4.out.to hp)
    have L2_5 := Lib.hid (L2_4.out.to hp)
    have A_5 := Lib.hid (A_4.out.to hp)
    have B_5 := Lib.hid (B_4.out.to hp)
    have C_5 := Lib.hid (C_4.out.to hp)
    have D_5 := Lib.hid (D_4.out.to hp)
    clear hp  HP_4 HW_4 L_4 L2_4 A_4 B_4 C_4 D_4
    rw [HLV.out, HLE.out]
    go_wp2_with fail
    refine (RLast_any v5 L p cap t l hLn L_5.out).mono ?_
    rintro e v6 ⟨rfl, hp⟩
    have HP_6 := Lib.hid (HP_5.out.trans hp)
    have HW_6 := Lib.hid (HW_5.out.to hp)
    have L_6 := Lib.hid (L_5.out.to hp)
    have L2_6 := Lib.hid (L2_5.out.to hp)
    have A_6 := Lib.hid (A_5.out.to hp)
    have B_6 := Lib.hid (B_5.out.to hp)
    have C_6 := Lib.hid (C_5.out.to hp)
    have D_6 := Lib.hid (D_5.out.to hp)
    clear hp  HP_5 HW_5 L_5 L2_5 A_5 B_5 C_5 D_5
    rw [HLV.out, HLE.out]
    go_wp2_with fail
    refine (Ints_any v6 qA qB lc.length lc.length dA dB _ _ HCL.out HCL.out A_6.out B_6.out).mono ?_
    rintro e v7 ⟨rfl, hp⟩
    have HP_7 := Lib.hid (HP_6.out.trans hp)
    have HW_7 := Lib.hid (HW_6.out.to hp)
    have L_7 := Lib.hid (L_6.out.to hp)
    have L2_7 := Lib.hid (L2_6.out.to hp)
    have A_7 := Lib.hid (A_6.out.to hp)
    have B_7 := Lib.hid (B_6.out.to hp)
    have C_7 := Lib.hid (C_6.out.to hp)
    have D_7 := Lib.hid (D_6.out.to hp)
    clear hp  HP_6 HW_6 L_6 L2_6 A_6 B_6 C_6 D_6
    rw [intsB_self]
    go_wp2_with fail
    refine (Ints_any v7 qC qD li.length li.length dC dD _ _ HIL.out HIL.out C_7.out D_7.out).mono ?_
    rintro e v8 ⟨rfl, hp⟩
    have HP_8 := Lib.hid (HP_7.out.trans hp)
    have HW_8 := Lib.hid (HW_7.out.to hp)
    have L_8 := Lib.hid (L_7.out.to hp)
    have L2_8 := Lib.hid (L2_7.out.to hp)
    have A_8 := Lib.hid (A_7.out.to hp)
    have B_8 := Lib.hid (B_7.out.to hp)
    have C_8 := Lib.hid (C_7.out.to hp)
    have D_8 := Lib.hid (D_7.out.to hp)
    clear hp  HP_7 HW_7 L_7 L2_7 A_7 B_7 C_7 D_7
    rw [intsB_self]
    go_wp2_with fail
    refine (alikeLots_any v8 L p2 p c2 cap hLn L2_8.out L_8.out).mono ?_
    rintro e v9 ⟨rfl, hp⟩
    have HP_9 := Lib.hid (HP_8.out.trans hp)
    have HW_9 := Lib.hid (HW_8.out.to hp)
    have L_9 := Lib.hid (L_8.out.to hp)
    have L2_9 := Lib.hid (L2_8.out.to hp)
    have A_9 := Lib.hid (A_8.out.to hp)
    have B_9 := Lib.hid (B_8.out.to hp)
    have C_9 := Lib.hid (C_8.out.to hp)
    have D_9 := Lib.hid (D_8.out.to hp)
    clear hp  HP_8 HW_8 L_8 L2_8 A_8 B_8 C_8 D_8
    go_wp2_with fail
    refine (Works_any v9 HW_9.out).mono ?_
    rintro e v10 ⟨rfl, hp⟩
    have HP_10 := Lib.hid (HP_9.out.trans hp)
    have HW_10 := Lib.hid (HW_9.out.to hp)
    have L_10 := Lib.hid (L_9.out.to hp)
    have L2_10 := Lib.hid (L2_9.out.to hp)
    have A_10 := Lib.hid (A_9.out.to hp)
    have B_10 := Lib.hid (B_9.out.to hp)
    have C_10 := Lib.hid (C_9.out.to hp)
    have D_10 := Lib.hid (D_9.out.to hp)
    clear hp  HP_9 HW_9 L_9 L2_9 A_9 B_9 C_9 D_9
    go_wp2
    exact bodyPost_ret (v := .bool true) (by simp [results, Tryd.results6, go_sem]) rfl ⟨rfl, HP_10.out⟩
end Go.Proofs.YtgpfmnjianflaaaDoor
