/- Walk of the reference's isCorner. -/
import Derived.Test.YtgpfmnjianflaaaDoorR14
set_option linter.unusedSimpArgs false
set_option linter.unusedVariables false
set_option linter.constructorNameAsVariable false
namespace Go.Proofs.YtgpfmnjianflaaaDoor
open Go.RowKit

theorem dupTo_succ (L : LT) (i n : Nat) : L.dupTo i (n + 1) = (L.dupTo i n || L.dupB i n) := by
  unfold LT.dupTo
  rw [List.range_succ, List.any_append]
  simp
theorem dupTo_up {L : LT} {i k n : Nat} (h : L.dupTo i k = true) (hk : k ≤ n) : L.dupTo i n = true := by
  obtain ⟨j, hj, h1, h2⟩ := dupTo_iff.1 h
  exact dupTo_iff.2 ⟨j, by omega, h1, h2⟩
theorem oth_in {L : LT} (h : L.In) (s p : Int) : (L.oth s p).In := fun j hj => by
  obtain ⟨i, hi, e1, e2, -⟩ := (oth_is L s p).sub j hj
  have := h i hi
  rw [e1, e2] at *
  exact this
theorem LotsAt.grow {W W' : World} {q : Option Addr} {M : LT} (h : LotsAt W.heap.size W q M) (hp : Pure W W') : LotsAt W'.heap.size W' q M := fun k hk => by
  obtain ⟨b, o, e, hb, h1, h2⟩ := h.to hp k hk
  exact ⟨b, o, e, Nat.lt_of_lt_of_le hb (Nat.le_refl _), h1, h2⟩
/-- A new block of two cells, laid and stored in whatever order, beside a list that is made. -/
structure OS (V : World) (M : LT) (ga : Nat) (q : Option Addr) (b5 b15 b16 : Bool) (cc : Array Value) (W : World) : Prop where
  pure : Pure V W
  l : b5 = true → b16 = false → LotsAt W.heap.size W q M
  g : b15 = true → V.heap.size ≤ ga ∧ Blk ga 29 (bif b16 then cc else #[.int .i64 0, .int .i64 0]) W
section
variable {V W W' : World} {M : LT} {ga : Nat} {q : Option Addr} {b5 b15 b16 : Bool} {cc : Array Value}
theorem OS.draw (V : World) (M : LT) (ga : Nat) (q : Option Addr) (cc : Array Value) : OS V M ga q false false false cc V.drew := ⟨(Diff.refl V).drew, fun h _ => (by cases h), fun h => (by cases h)⟩
theorem OS.call (x : OS V M ga q b5 b15 b16 cc W) (hp : Pure W W') : OS V M ga q b5 b15 b16 cc W' := ⟨x.pure.trans hp, fun e f => (x.l e f).grow hp, fun e => ⟨(x.g e).1, (x.g e).2.to hp⟩⟩
theorem OS.list {q' : Option Addr} (x : OS V M ga q false b15 b16 cc W) (hp : Pure W W') (hl : LotsAt W'.heap.size W' q' M) : OS V M ga q' true b15 b16 cc W' := ⟨x.pure.trans hp, fun _ _ => hl, fun e => ⟨(x.g e).1, (x.g e).2.to hp⟩⟩
theorem OS.alloc (x : OS V M ga q b5 false false cc W) : OS V M W.heap.size q b5 true false cc (W.alloc (.cells #[.int .i64 0, .int .i64 0] 29)) :=
  ⟨x.pure.alloc _, fun e f => (x.l e f).grow ((Diff.refl _).alloc _), fun _ => ⟨x.pure.size, Blk.new _ _ _⟩⟩
theorem OS.set {u v : Value} (x : OS V M ga q b5 true false #[u, v] W) : OS V M ga q b5 true true #[u, v] ((W.setCell ⟨ga, 0, none⟩ u).setCell ⟨ga, 1, none⟩ v) :=
  ⟨x.pure.set2 (x.g rfl).1 u v, fun _ f => (by cases f), fun _ => ⟨(x.g rfl).1, (x.g rfl).2.set2 u v⟩⟩
end

set_option maxRecDepth 20000 in
set_option maxHeartbeats 4000000 in
theorem isCorner_any (w : World) (L : LT) (p : Option Addr) (cap i : Nat) (hi : i < L.n) (hok : L.In) (hn : L.n ≤ 1000) (hl : LotsAt w.heap.size w p L) :
    Calls Tryd.prog 80 #[.slice p L.n cap, .int .i64 (i : Int)] w fun e w' => e = .returned (.bool (L.cornB i)) ∧ Pure w w' := by
  have hmx : Tryd.prog.follows .mixedOrders = true := by kernel_rfl
  obtain ⟨bl, o, rfl, hb, hs0, hs1⟩ := hl i hi
  have HL := Lib.hid hl
  have HB := Lib.hid hb
  have HS0 := Lib.hid hs0
  have HS1 := Lib.hid hs1
  have HOK := Lib.hid hok
  clear hl hb hs0 hs1 hok
  have hii : (i : Int) < (L.n : Int) := by omega
  go_enter Tryd.func80, Tryd.ntmps80
  go_wp2_with fail
  go_loopw [5] (fun v wr => ∃ k : Nat, k ≤ i ∧ v = .int .i64 k ∧ Hid (L.dupTo i k = false) ∧ Hid (Pure w wr)) (fun v _ => i - (intOf v).toNat)
  case atStart => exact ⟨0, Nat.zero_le _, rfl, rfl, Diff.refl _⟩
  case round =>
    obtain ⟨k, hk, rfl, HD, HP⟩ := hrel
    by_cases hlt : k < i
    · obtain ⟨b', o', he, -, hc0, hc1⟩ := HL.out k (by omega)
      cases he
      have d0 := ((pcell HP.out).1 _ _ HB.out).trans hc0
      have d1 := ((pcell HP.out).1 _ _ HB.out).trans hc1
      have e0 := ((pcell HP.out).1 _ _ HB.out).trans HS0.out
      have e1 := ((pcell HP.out).1 _ _ HB.out).trans HS1.out
      have lb := Nat.lt_of_lt_of_le HB.out HP.out.size
      have hki : (k : Int) < (i : Int) := by omega
      have hkn : (k : Int) < (L.n : Int) := by omega
      obtain ⟨x, hx⟩ : ∃ x, (L.s k == L.s i) = x := ⟨_, rfl⟩
      obtain ⟨y, hy⟩ : ∃ y, (L.p k == L.p i) = y := ⟨_, rfl⟩
      clear hc0 hc1
      cases x
      · cases y
        · have HS : Hid (L.dupTo i (k + 1) = false) := by show _ = _; rw [dupTo_succ, HD.out]; unfold LT.dupB; rw [hx, hy]; rfl
          go_wp2
          go_region
          go_wp2
          go_roundw
          case rel => exact ⟨k + 1, by omega, by go_num, HS.out, HP.out.drew⟩
          case measure => simp [intOf]; omega
        · have HS : Hid (L.dupTo i (k + 1) = false) := by show _ = _; rw [dupTo_succ, HD.out]; unfold LT.dupB; rw [hx, hy]; rfl
          go_wp2
          go_region
          go_wp2
          go_roundw
          case rel => exact ⟨k + 1, by omega, by go_num, HS.out, HP.out.drew⟩
          case measure => simp [intOf]; omega
      · cases y
        · have HS : Hid (L.dupTo i (k + 1) = false) := by show _ = _; rw [dupTo_succ, HD.out]; unfold LT.dupB; rw [hx, hy]; rfl
          go_wp2
          go_region
          go_wp2
          go_roundw
          case rel => exact ⟨k + 1, by omega, by go_num, HS.out, HP.out.drew⟩
          case measure => simp [intOf]; omega
        · have HS : Hid (L.cornB i = false) := by
            show _ = _
            unfold LT.cornB
            rw [if_pos (dupTo_up (k := k + 1) (by rw [dupTo_succ]; unfold LT.dupB; rw [hx, hy]; simp) (by omega))]
          go_wp2
          go_region
          go_wp2
          exact bodyPost_ret (v := .bool false) (by simp [results, Tryd.results80, go_sem]) rfl ⟨by rw [HS.out], HP.out.drew⟩
    · obtain rfl : k = i := by omega
      have HCB : Hid (L.cornB k = (prEq (L.refC (L.s k)) (L.p k, 1) && (!(hasB ((L.oth (L.s k) (L.p k)).refC (L.s k)).1 ((L.oth (L.s k) (L.p k)).refC (L.s k)).2) || decide ((L.refC (L.s k)).1 * ((L.oth (L.s k) (L.p k)).refC (L.s k)).2 < ((L.oth (L.s k) (L.p k)).refC (L.s k)).1 * (L.refC (L.s k)).2)))) := by
        show _ = _
        unfold LT.cornB
        rw [if_neg (by rw [HD.out]; exact Bool.false_ne_true), (red_one (L.p k)).1, (red_one (L.p k)).2]
      have hmn := othL_le L (L.s k) (L.p k) L.n
      have HMN : Hid ((L.oth (L.s k) (L.p k)).n ≤ 1000) := by show (L.othL (L.s k) (L.p k) L.n).length ≤ 1000; omega
      have HMI : Hid (L.oth (L.s k) (L.p k)).In := oth_in HOK.out _ _
      have HIS : Hid ((0 ≤ L.s k ∧ L.s k ≤ 100) ∧ 0 ≤ L.p k ∧ L.p k ≤ 1000) := HOK.out k hi
      clear hmn
      obtain ⟨M, hM⟩ : ∃ M, L.oth (L.s k) (L.p k) = M := ⟨_, rfl⟩
      have HMM := Lib.hid hM
      rw [hM] at HMN HMI HCB
      clear hM
      have e0 := ((pcell HP.out).1 _ _ HB.out).trans HS0.out
      have e1 := ((pcell HP.out).1 _ _ HB.out).trans HS1.out
      have lb := Nat.lt_of_lt_of_le HB.out HP.out.size
      go_wp2_with fail
      refine (RCheapestOf_any wr L (some ⟨bl, o, none⟩) cap (L.s k) HIS.out.1 HOK.out hn (HL.out.grow HP.out)).mono ?_
      rintro e w1 ⟨rfl, hp1⟩
      have HP1 := Lib.hid (HP.out.trans hp1)
      have HR0 : Hid (((0 ≤ (L.refC (L.s k)).1 ∧ (L.refC (L.s k)).1 ≤ 100000) ∧ 0 ≤ (L.refC (L.s k)).2 ∧ (L.refC (L.s k)).2 ≤ 100)) := refC_small HOK.out _
      have HR1 : Hid (((0 ≤ (M.refC (L.s k)).1 ∧ (M.refC (L.s k)).1 ≤ 100000) ∧ 0 ≤ (M.refC (L.s k)).2 ∧ (M.refC (L.s k)).2 ≤ 100)) := refC_small HMI.out _
      obtain ⟨a1, ha1⟩ : ∃ z, (L.refC (L.s k)).1 = z := ⟨_, rfl⟩
      obtain ⟨a2, ha2⟩ : ∃ z, (L.refC (L.s k)).2 = z := ⟨_, rfl⟩
      obtain ⟨o1, ho1⟩ : ∃ z, (M.refC (L.s k)).1 = z := ⟨_, rfl⟩
      obtain ⟨o2, ho2⟩ : ∃ z, (M.refC (L.s k)).2 = z := ⟨_, rfl⟩
      have HA : Hid ((L.refC (L.s k)).1 = a1 ∧ (L.refC (L.s k)).2 = a2 ∧ (M.refC (L.s k)).1 = o1 ∧ (M.refC (L.s k)).2 = o2) := ⟨ha1, ha2, ho1, ho2⟩
      unfold prEq at HCB
      rw [ha1, ha2] at HR0 HCB ⊢
      rw [ho1, ho2] at HR1 HCB
      clear ha1 ha2 ho1 ho2 e0 e1 lb
      obtain ⟨hb0, hhb0⟩ : ∃ z, hasB a1 a2 = z := ⟨_, rfl⟩
      rw [hhb0]
      clear hhb0
      have e0 := ((pcell HP1.out).1 _ _ HB.out).trans HS0.out
      have e1 := ((pcell HP1.out).1 _ _ HB.out).trans HS1.out
      have lb := Nat.lt_of_lt_of_le HB.out HP1.out.size
      clear hp1
      go_wp2_with fail
      obtain ⟨X, hX⟩ : ∃ V : World, w1.alloc (.cells #[.int .i64 a1, .int .i64 a2] 29) = V := ⟨_, rfl⟩
      have hkb : Blk w1.heap.size 29 #[.int .i64 a1, .int .i64 a2] X := by rw [← hX]; exact Blk.new _ _ _
      have hpx : Pure w1 X := by rw [← hX]; exact (Diff.refl _).alloc _
      rw [hX]
      have HK := Lib.hid hkb
      have HPX := Lib.hid (HP1.out.trans hpx)
      clear hX hkb hpx e0 e1 lb
      obtain ⟨g1, hg1⟩ : ∃ g, w1.heap.size = g := ⟨_, rfl⟩
      rw [hg1] at HK ⊢
      clear hg1
      have e0 := ((pcell HPX.out).1 _ _ HB.out).trans HS0.out
      have e1 := ((pcell HPX.out).1 _ _ HB.out).trans HS1.out
      have lb := Nat.lt_of_lt_of_le HB.out HPX.out.size
      go_wp2_with fail
      obtain ⟨hb1, hhb1⟩ : ∃ z, hasB o1 o2 = z := ⟨_, rfl⟩
      have HB1 := Lib.hid hhb1
      rw [hhb1] at HCB
      clear hhb1
      refine reg_invW (fun d a W => ∃ (ga : Nat) (q : Option Addr) (c : Nat), a = { tmps := #[Value.slice (some { block := bl, off := o }) L.n cap, Value.int IntKind.i64 (k : Int), undef, undef, u4, Value.int IntKind.i64 (k : Int), Value.pointer (some { block := g1, off := 0 }), Value.bool hb0, (bif d 15 then Value.pointer (some { block := ga, off := 0 }) else undef), (bif d 17 then Value.bool hb1 else undef), Value.int IntKind.i64 (k : Int), Value.int IntKind.i64 (k : Int), Value.bool false, u13, u14, u15, u16, u17, u18, u19, u20, u21, u22, u23, Value.tuple #[Value.agg #[Value.int IntKind.i64 a1, Value.int IntKind.i64 a2], Value.bool hb0], Value.slice (some { block := bl, off := o }) L.n cap, Value.slice (some { block := bl, off := o }) L.n cap, Value.int IntKind.i64 (k : Int), Value.pointer (some { block := bl, off := o + k * 2 }), Value.pointer (some { block := bl, off := o + k * 2 }), Value.int IntKind.i64 (L.s k), Value.tuple #[Value.agg #[Value.int IntKind.i64 a1, Value.int IntKind.i64 a2], Value.bool hb0], Value.agg #[Value.int IntKind.i64 a1, Value.int IntKind.i64 a2], Value.bool hb0, (bif d 12 then Value.tuple #[Value.agg #[Value.int IntKind.i64 (o1), Value.int IntKind.i64 (o2)], Value.bool hb1] else undef), (bif d 0 then Value.slice (some { block := bl, off := o }) L.n cap else undef), (bif d 1 then Value.slice (some { block := bl, off := o }) L.n cap else undef), (bif d 2 then Value.int IntKind.i64 (k : Nat) else undef), (bif d 3 then Value.pointer (some { block := bl, off := o + k * 2 }) else undef), (bif d 4 then Value.agg #[Value.int IntKind.i64 (L.s k), Value.int IntKind.i64 (L.p k)] else undef), (bif d 5 then Value.slice q M.n c else undef), (bif d 6 then Value.slice (some { block := bl, off := o }) L.n cap else undef), (bif d 7 then Value.int IntKind.i64 (k : Nat) else undef), (bif d 8 then Value.pointer (some { block := bl, off := o + k * 2 }) else undef), (bif d 9 then Value.pointer (some { block := bl, off := o + k * 2 }) else undef), (bif d 10 then Value.int IntKind.i64 (L.s k) else undef), (bif d 11 then Value.tuple #[Value.agg #[Value.int IntKind.i64 (o1), Value.int IntKind.i64 (o2)], Value.bool hb1] else undef), (bif d 13 then Value.agg #[Value.int IntKind.i64 (o1), Value.int IntKind.i64 (o2)] else undef), (bif d 14 then Value.bool hb1 else undef), undef, undef, undef, undef, undef, undef, undef, undef, undef, undef, undef, undef, undef, undef, undef, undef, undef], defers := [] } ∧ OS X M ga q (d 5) (d 15) (d 16) #[Value.int IntKind.i64 o1, Value.int IntKind.i64 o2] W) hmx (by kernel_rfl) ?_ ?_ ?_
      · exact ⟨0, none, 0, rfl, OS.draw _ _ _ _ _⟩
      · refine ⟨?_, ?_, ?_, ?_, ?_, ?_, ?_, ?_, ?_, ?_, ?_, ?_, ?_, ?_, ?_, ?_, ?_, ?_, trivial⟩
        · rintro d a W hdi hdep hcl ⟨ga, q, c, rfl, hw⟩ K hK
          have E := hcl.facts 0 hdi rfl hdep [] [5, 11, 12, 13, 14, 16, 17] (by kernel_rfl) (by kernel_rfl)
          simp only [AllT, AllF] at E
          clear hdi hdep hcl
          go_simp
          exact hK _ _ ⟨ga, q, c, by simp [upd, E], by simpa [upd, E] using hw⟩
        · rintro d a W hdi hdep hcl ⟨ga, q, c, rfl, hw⟩ K hK
          have E := hcl.facts 1 hdi rfl hdep [] [3, 4, 5, 11, 12, 13, 14, 16, 17] (by kernel_rfl) (by kernel_rfl)
          simp only [AllT, AllF] at E
          clear hdi hdep hcl
          go_simp
          exact hK _ _ ⟨ga, q, c, by simp [upd, E], by simpa [upd, E] using hw⟩
        · rintro d a W hdi hdep hcl ⟨ga, q, c, rfl, hw⟩ K hK
          have E := hcl.facts 2 hdi rfl hdep [] [3, 4, 5, 11, 12, 13, 14, 16, 17] (by kernel_rfl) (by kernel_rfl)
          simp only [AllT, AllF] at E
          clear hdi hdep hcl
          go_simp
          exact hK _ _ ⟨ga, q, c, by simp [upd, E], by simpa [upd, E] using hw⟩
        · rintro d a W hdi hdep hcl ⟨ga, q, c, rfl, hw⟩ K hK
          have E := hcl.facts 3 hdi rfl hdep [1, 2] [4, 5, 11, 12, 13, 14, 16, 17] (by kernel_rfl) (by kernel_rfl)
          simp only [AllT, AllF] at E
          clear hdi hdep hcl
          go_simp
          exact hK _ _ ⟨ga, q, c, by simp [upd, E], by simpa [upd, E] using hw⟩
        · rintro d a W hdi hdep hcl ⟨ga, q, c, rfl, hw⟩ K hK
          have E := hcl.facts 4 hdi rfl hdep [1, 2, 3] [5, 11, 12, 13, 14, 16, 17] (by kernel_rfl) (by kernel_rfl)
          simp only [AllT, AllF] at E
          clear hdi hdep hcl
          have z1 := ((pcell hw.pure).1 _ _ lb).trans e0
          have z2 := ((pcell hw.pure).1 _ _ lb).trans e1
          go_simp
          exact hK _ _ ⟨ga, q, c, by simp [upd, E], by simpa [upd, E] using hw⟩
        · rintro d a W hdi hdep hcl ⟨ga, q, c, rfl, hw⟩ K hK
          have E := hcl.facts 5 hdi rfl hdep [0, 1, 2, 3, 4] [11, 12, 13, 14, 16, 17] (by kernel_rfl) (by kernel_rfl)
          simp only [AllT, AllF] at E
          clear hdi hdep hcl
          simp only [E] at hw
          go_simp
          refine Calls.mono (others_any W L (some ⟨bl, o, none⟩) cap (L.s k) (L.p k) hn (HL.out.grow (HPX.out.trans hw.pure))) ?_
          rintro e w9 ⟨⟨q9, c9, rfl, hl9⟩, hp9⟩
          rw [HMM.out] at hl9 ⊢
          exact hK _ _ ⟨ga, q9, c9, by simp [upd, E], by simpa [upd, E] using hw.list hp9 hl9⟩
        · rintro d a W hdi hdep hcl ⟨ga, q, c, rfl, hw⟩ K hK
          have E := hcl.facts 6 hdi rfl hdep [] [8, 9, 10, 11, 12, 13, 14, 16, 17] (by kernel_rfl) (by kernel_rfl)
          simp only [AllT, AllF] at E
          clear hdi hdep hcl
          go_simp
          exact hK _ _ ⟨ga, q, c, by simp [upd, E], by simpa [upd, E] using hw⟩
        · rintro d a W hdi hdep hcl ⟨ga, q, c, rfl, hw⟩ K hK
          have E := hcl.facts 7 hdi rfl hdep [] [8, 9, 10, 11, 12, 13, 14, 16, 17] (by kernel_rfl) (by kernel_rfl)
          simp only [AllT, AllF] at E
          clear hdi hdep hcl
          go_simp
          exact hK _ _ ⟨ga, q, c, by simp [upd, E], by simpa [upd, E] using hw⟩
        · rintro d a W hdi hdep hcl ⟨ga, q, c, rfl, hw⟩ K hK
          have E := hcl.facts 8 hdi rfl hdep [6, 7] [9, 10, 11, 12, 13, 14, 16, 17] (by kernel_rfl) (by kernel_rfl)
          simp only [AllT, AllF] at E
          clear hdi hdep hcl
          go_simp
          exact hK _ _ ⟨ga, q, c, by simp [upd, E], by simpa [upd, E] using hw⟩
        · rintro d a W hdi hdep hcl ⟨ga, q, c, rfl, hw⟩ K hK
          have E := hcl.facts 9 hdi rfl hdep [6, 7, 8] [10, 11, 12, 13, 14, 16, 17] (by kernel_rfl) (by kernel_rfl)
          simp only [AllT, AllF] at E
          clear hdi hdep hcl
          go_simp
          exact hK _ _ ⟨ga, q, c, by simp [upd, E], by simpa [upd, E] using hw⟩
        · rintro d a W hdi hdep hcl ⟨ga, q, c, rfl, hw⟩ K hK
          have E := hcl.facts 10 hdi rfl hdep [6, 7, 8, 9] [11, 12, 13, 14, 16, 17] (by kernel_rfl) (by kernel_rfl)
          simp only [AllT, AllF] at E
          clear hdi hdep hcl
          have z1 := ((pcell hw.pure).1 _ _ lb).trans e0
          go_simp
          exact hK _ _ ⟨ga, q, c, by simp [upd, E], by simpa [upd, E] using hw⟩
        · rintro d a W hdi hdep hcl ⟨ga, q, c, rfl, hw⟩ K hK
          have E := hcl.facts 11 hdi rfl hdep [0, 1, 2, 3, 4, 5, 6, 7, 8, 9, 10] [12, 13, 14, 16, 17] (by kernel_rfl) (by kernel_rfl)
          simp only [AllT, AllF] at E
          clear hdi hdep hcl
          simp only [E] at hw
          go_simp
          refine Calls.mono (RCheapestOf_any W M q c (L.s k) HIS.out.1 HMI.out HMN.out (hw.l rfl rfl)) ?_
          rw [HA.out.2.2.1, HA.out.2.2.2, HB1.out]
          rintro e w9 ⟨rfl, hp9⟩
          exact hK _ _ ⟨ga, q, c, by simp [upd, E], by simpa [upd, E] using hw.call hp9⟩
        · rintro d a W hdi hdep hcl ⟨ga, q, c, rfl, hw⟩ K hK
          have E := hcl.facts 12 hdi rfl hdep [0, 1, 2, 3, 4, 5, 6, 7, 8, 9, 10, 11] [13, 14, 16, 17] (by kernel_rfl) (by kernel_rfl)
          simp only [AllT, AllF] at E
          clear hdi hdep hcl
          go_simp
          exact hK _ _ ⟨ga, q, c, by simp [upd, E], by simpa [upd, E] using hw⟩
        · rintro d a W hdi hdep hcl ⟨ga, q, c, rfl, hw⟩ K hK
          have E := hcl.facts 13 hdi rfl hdep [0, 1, 2, 3, 4, 5, 6, 7, 8, 9, 10, 11, 12] [16, 17] (by kernel_rfl) (by kernel_rfl)
          simp only [AllT, AllF] at E
          clear hdi hdep hcl
          go_simp
          exact hK _ _ ⟨ga, q, c, by simp [upd, E], by simpa [upd, E] using hw⟩
        · rintro d a W hdi hdep hcl ⟨ga, q, c, rfl, hw⟩ K hK
          have E := hcl.facts 14 hdi rfl hdep [0, 1, 2, 3, 4, 5, 6, 7, 8, 9, 10, 11, 12] [17] (by kernel_rfl) (by kernel_rfl)
          simp only [AllT, AllF] at E
          clear hdi hdep hcl
          go_simp
          exact hK _ _ ⟨ga, q, c, by simp [upd, E], by simpa [upd, E] using hw⟩
        · rintro d a W hdi hdep hcl ⟨ga, q, c, rfl, hw⟩ K hK
          have E := hcl.facts 15 hdi rfl hdep [] [16, 17] (by kernel_rfl) (by kernel_rfl)
          simp only [AllT, AllF] at E
          clear hdi hdep hcl
          simp only [E] at hw
          go_simp
          exact hK _ _ ⟨W.heap.size, q, c, by simp [upd, E], by simpa [upd, E] using hw.alloc⟩
        · rintro d a W hdi hdep hcl ⟨ga, q, c, rfl, hw⟩ K hK
          have E := hcl.facts 16 hdi rfl hdep [0, 1, 2, 3, 4, 5, 6, 7, 8, 9, 10, 11, 12, 13, 15] [17] (by kernel_rfl) (by kernel_rfl)
          simp only [AllT, AllF] at E
          clear hdi hdep hcl
          simp only [E] at hw
          have z := (hw.g rfl).2
          have z0 := z.at 0
          have z1 := z.at 1
          have fz := fun o => z.fz o
          have zl := z.lt
          simp only [cond_false] at z0 z1
          go_simp
          exact hK _ _ ⟨ga, q, c, by simp [upd, E], by simpa [upd, E] using hw.set⟩
        · rintro d a W hdi hdep hcl ⟨ga, q, c, rfl, hw⟩ K hK
          have E := hcl.facts 17 hdi rfl hdep [0, 1, 2, 3, 4, 5, 6, 7, 8, 9, 10, 11, 12, 13, 14, 15, 16] [] (by kernel_rfl) (by kernel_rfl)
          simp only [AllT, AllF] at E
          clear hdi hdep hcl
          go_simp
          exact hK _ _ ⟨ga, q, c, by simp [upd, E], by simpa [upd, E] using hw⟩
      · rintro d a W hall ⟨ga, q, c, rfl, hw⟩
        have E := AllT.all hall [0, 1, 2, 3, 4, 5, 6, 7, 8, 9, 10, 11, 12, 13, 14, 15, 16, 17] (by kernel_rfl)
        simp only [AllT] at E
        simp only [E, cond_true] at hw ⊢
        clear E hall
        have HP2 : Hid (Pure w W) := HPX.out.trans hw.pure
        have HK2 : Hid (Blk g1 29 #[Value.int IntKind.i64 a1, Value.int IntKind.i64 a2] W) := HK.out.to hw.pure
        have HJ2 : Hid (Blk ga 29 #[Value.int IntKind.i64 o1, Value.int IntKind.i64 o2] W) := (hw.g rfl).2
        clear hw e0 e1 lb
        have e1 := ((pcell HP2.out).1 _ _ HB.out).trans HS1.out
        have lb := Nat.lt_of_lt_of_le HB.out HP2.out.size
        obtain ⟨Wq, hWq⟩ : ∃ V : World, W = V := ⟨_, rfl⟩
        rw [hWq] at HP2 HK2 HJ2 e1 lb ⊢
        clear hWq
        by_cases hcn : a1 = L.p k ∧ a2 = 1
        · obtain ⟨rfl, rfl⟩ := hcn
          cases hb1
          · have HF : Hid (L.cornB k = true) := by show _ = _; rw [HCB.out]; simp
            go_wp2_with fail
            refine reg_invW (fun d a W => a = { tmps := #[Value.slice (some { block := bl, off := o }) L.n cap, Value.int IntKind.i64 (k : Int), undef, undef, (bif d 17 then Value.bool true else u4), Value.int IntKind.i64 (k : Int), Value.pointer (some { block := g1, off := 0 }), Value.bool hb0, Value.pointer (some { block := ga, off := 0 }), Value.bool false, Value.int IntKind.i64 (k : Int), Value.int IntKind.i64 (k : Int), Value.bool false, u13, u14, u15, u16, u17, u18, u19, u20, u21, u22, u23, Value.tuple #[Value.agg #[Value.int IntKind.i64 (L.p k), Value.int IntKind.i64 1], Value.bool hb0], Value.slice (some { block := bl, off := o }) L.n cap, Value.slice (some { block := bl, off := o }) L.n cap, Value.int IntKind.i64 (k : Int), Value.pointer (some { block := bl, off := o + k * 2 }), Value.pointer (some { block := bl, off := o + k * 2 }), Value.int IntKind.i64 (L.s k), Value.tuple #[Value.agg #[Value.int IntKind.i64 (L.p k), Value.int IntKind.i64 1], Value.bool hb0], Value.agg #[Value.int IntKind.i64 (L.p k), Value.int IntKind.i64 1], Value.bool hb0, Value.tuple #[Value.agg #[Value.int IntKind.i64 (o1), Value.int IntKind.i64 (o2)], Value.bool false], Value.slice (some { block := bl, off := o }) L.n cap, Value.slice (some { block := bl, off := o }) L.n cap, Value.int IntKind.i64 (k : Nat), Value.pointer (some { block := bl, off := o + k * 2 }), Value.agg #[Value.int IntKind.i64 (L.s k), Value.int IntKind.i64 (L.p k)], Value.slice q M.n c, Value.slice (some { block := bl, off := o }) L.n cap, Value.int IntKind.i64 (k : Nat), Value.pointer (some { block := bl, off := o + k * 2 }), Value.pointer (some { block := bl, off := o + k * 2 }), Value.int IntKind.i64 (L.s k), Value.tuple #[Value.agg #[Value.int IntKind.i64 (o1), Value.int IntKind.i64 (o2)], Value.bool false], Value.agg #[Value.int IntKind.i64 (o1), Value.int IntKind.i64 (o2)], Value.bool false, (bif d 0 then Value.agg #[Value.int IntKind.i64 (L.p k), Value.int IntKind.i64 (1)] else undef), (bif d 1 then Value.slice (some { block := bl, off := o }) L.n cap else undef), (bif d 2 then Value.int IntKind.i64 (k : Nat) else undef), (bif d 3 then Value.pointer (some { block := bl, off := o + k * 2 }) else undef), (bif d 4 then Value.pointer (some { block := bl, off := o + k * 2 + 1 }) else undef), (bif d 5 then Value.int IntKind.i64 (L.p k) else undef), (bif d 6 then Value.agg #[Value.int IntKind.i64 (L.p k), Value.int IntKind.i64 (1)] else undef), (bif d 7 then Value.bool true else undef), (bif d 8 then Value.bool true else undef), (bif d 9 then Value.bool false else undef), (bif d 10 then Value.bool true else undef), (bif d 11 then Value.bool true else undef), (bif d 12 then undef else undef), (bif d 13 then undef else undef), (bif d 14 then undef else undef), (bif d 15 then Value.bool true else undef), (bif d 16 then Value.bool true else undef)], defers := [] } ∧ Pure Wq W) hmx (by kernel_rfl) ?_ ?_ ?_
            · exact ⟨rfl, (Diff.refl _).drew⟩
            · refine ⟨?_, ?_, ?_, ?_, ?_, ?_, ?_, ?_, ?_, ?_, ?_, ?_, ?_, ?_, ?_, ?_, ?_, ?_, trivial⟩
              · rintro d a W hdi hdep hcl ⟨rfl, hw⟩ K hK
                have E := hcl.facts 0 hdi rfl hdep [] [7, 8, 9, 10, 11, 12, 13, 14, 15, 16, 17] (by kernel_rfl) (by kernel_rfl)
                simp only [AllT, AllF] at E
                clear hdi hdep hcl
                have z := HK2.out.to hw
                have z0 := z.at 0
                have z1 := z.at 1
                have zl := z.lt
                clear z
                go_simp
                exact hK _ _ ⟨by simp [upd, E], hw⟩
              · rintro d a W hdi hdep hcl ⟨rfl, hw⟩ K hK
                have E := hcl.facts 1 hdi rfl hdep [] [3, 4, 5, 6, 7, 8, 9, 10, 11, 12, 13, 14, 15, 16, 17] (by kernel_rfl) (by kernel_rfl)
                simp only [AllT, AllF] at E
                clear hdi hdep hcl
                go_simp
                exact hK _ _ ⟨by simp [upd, E], hw⟩
              · rintro d a W hdi hdep hcl ⟨rfl, hw⟩ K hK
                have E := hcl.facts 2 hdi rfl hdep [] [3, 4, 5, 6, 7, 8, 9, 10, 11, 12, 13, 14, 15, 16, 17] (by kernel_rfl) (by kernel_rfl)
                simp only [AllT, AllF] at E
                clear hdi hdep hcl
                go_simp
                exact hK _ _ ⟨by simp [upd, E], hw⟩
              · rintro d a W hdi hdep hcl ⟨rfl, hw⟩ K hK
                have E := hcl.facts 3 hdi rfl hdep [1, 2] [4, 5, 6, 7, 8, 9, 10, 11, 12, 13, 14, 15, 16, 17] (by kernel_rfl) (by kernel_rfl)
                simp only [AllT, AllF] at E
                clear hdi hdep hcl
                go_simp
                exact hK _ _ ⟨by simp [upd, E], hw⟩
              · rintro d a W hdi hdep hcl ⟨rfl, hw⟩ K hK
                have E := hcl.facts 4 hdi rfl hdep [1, 2, 3] [5, 6, 7, 8, 9, 10, 11, 12, 13, 14, 15, 16, 17] (by kernel_rfl) (by kernel_rfl)
                simp only [AllT, AllF] at E
                clear hdi hdep hcl
                go_simp
                exact hK _ _ ⟨by simp [upd, E], hw⟩
              · rintro d a W hdi hdep hcl ⟨rfl, hw⟩ K hK
                have E := hcl.facts 5 hdi rfl hdep [1, 2, 3, 4] [6, 7, 8, 9, 10, 11, 12, 13, 14, 15, 16, 17] (by kernel_rfl) (by kernel_rfl)
                simp only [AllT, AllF] at E
                clear hdi hdep hcl
                have z1 := ((pcell hw).1 _ _ lb).trans e1
                go_simp
                exact hK _ _ ⟨by simp [upd, E], hw⟩
              · rintro d a W hdi hdep hcl ⟨rfl, hw⟩ K hK
                have E := hcl.facts 6 hdi rfl hdep [1, 2, 3, 4, 5] [7, 8, 9, 10, 11, 12, 13, 14, 15, 16, 17] (by kernel_rfl) (by kernel_rfl)
                simp only [AllT, AllF] at E
                clear hdi hdep hcl
                go_simp
                refine Calls.mono (RBy_any W (L.p k) 1 ⟨by have := HIS.out; omega, by have := HIS.out; omega⟩ ⟨by omega, by omega⟩) ?_
                rw [(red_one (L.p k)).1, (red_one (L.p k)).2]
                rintro e w9 ⟨rfl, hp9⟩
                exact hK _ _ ⟨by simp [upd, E], hw.trans hp9⟩
              · rintro d a W hdi hdep hcl ⟨rfl, hw⟩ K hK
                have E := hcl.facts 7 hdi rfl hdep [0, 1, 2, 3, 4, 5, 6] [8, 9, 10, 11, 12, 13, 14, 15, 16, 17] (by kernel_rfl) (by kernel_rfl)
                simp only [AllT, AllF] at E
                clear hdi hdep hcl
                go_simp
                exact hK _ _ ⟨by simp [upd, E], hw⟩
              · rintro d a W hdi hdep hcl ⟨rfl, hw⟩ K hK
                have E := hcl.facts 8 hdi rfl hdep [0, 1, 2, 3, 4, 5, 6, 7] [9, 10, 11, 12, 13, 14, 15, 16, 17] (by kernel_rfl) (by kernel_rfl)
                simp only [AllT, AllF] at E
                clear hdi hdep hcl
                go_simp
                exact hK _ _ ⟨by simp [upd, E], hw⟩
              · rintro d a W hdi hdep hcl ⟨rfl, hw⟩ K hK
                have E := hcl.facts 9 hdi rfl hdep [0, 1, 2, 3, 4, 5, 6, 7, 8] [10, 11, 12, 13, 14, 15, 16, 17] (by kernel_rfl) (by kernel_rfl)
                simp only [AllT, AllF] at E
                clear hdi hdep hcl
                go_simp
                exact hK _ _ ⟨by simp [upd, E], hw⟩
              · rintro d a W hdi hdep hcl ⟨rfl, hw⟩ K hK
                have E := hcl.facts 10 hdi rfl hdep [0, 1, 2, 3, 4, 5, 6, 7, 8, 9] [11, 12, 13, 14, 15, 16, 17] (by kernel_rfl) (by kernel_rfl)
                simp only [AllT, AllF] at E
                clear hdi hdep hcl
                go_simp
                exact hK _ _ ⟨by simp [upd, E], hw⟩
              · rintro d a W hdi hdep hcl ⟨rfl, hw⟩ K hK
                have E := hcl.facts 11 hdi rfl hdep [0, 1, 2, 3, 4, 5, 6, 7, 8, 9, 10] [12, 13, 14, 15, 16, 17] (by kernel_rfl) (by kernel_rfl)
                simp only [AllT, AllF] at E
                clear hdi hdep hcl
                go_simp
                exact hK _ _ ⟨by simp [upd, E], hw⟩
              · rintro d a W hdi hdep hcl ⟨rfl, hw⟩ K hK
                have E := hcl.facts 12 hdi rfl hdep [0, 1, 2, 3, 4, 5, 6, 7, 8, 9, 10, 11] [14, 15, 16, 17] (by kernel_rfl) (by kernel_rfl)
                simp only [AllT, AllF] at E
                clear hdi hdep hcl
                go_simp
                exact hK _ _ ⟨by simp [upd, E], hw⟩
              · rintro d a W hdi hdep hcl ⟨rfl, hw⟩ K hK
                have E := hcl.facts 13 hdi rfl hdep [0, 1, 2, 3, 4, 5, 6, 7, 8, 9, 10, 11] [14, 15, 16, 17] (by kernel_rfl) (by kernel_rfl)
                simp only [AllT, AllF] at E
                clear hdi hdep hcl
                go_simp
                exact hK _ _ ⟨by simp [upd, E], hw⟩
              · rintro d a W hdi hdep hcl ⟨rfl, hw⟩ K hK
                have E := hcl.facts 14 hdi rfl hdep [0, 1, 2, 3, 4, 5, 6, 7, 8, 9, 10, 11, 12, 13] [15, 16, 17] (by kernel_rfl) (by kernel_rfl)
                simp only [AllT, AllF] at E
                clear hdi hdep hcl
                go_simp
                exact hK _ _ ⟨by simp [upd, E], hw⟩
              · rintro d a W hdi hdep hcl ⟨rfl, hw⟩ K hK
                have E := hcl.facts 15 hdi rfl hdep [0, 1, 2, 3, 4, 5, 6, 7, 8, 9, 10, 11, 12, 13, 14] [16, 17] (by kernel_rfl) (by kernel_rfl)
                simp only [AllT, AllF] at E
                clear hdi hdep hcl
                go_simp
                exact hK _ _ ⟨by simp [upd, E], hw⟩
              · rintro d a W hdi hdep hcl ⟨rfl, hw⟩ K hK
                have E := hcl.facts 16 hdi rfl hdep [0, 1, 2, 3, 4, 5, 6, 7, 8, 9, 10, 11, 12, 13, 14, 15] [17] (by kernel_rfl) (by kernel_rfl)
                simp only [AllT, AllF] at E
                clear hdi hdep hcl
                go_simp
                exact hK _ _ ⟨by simp [upd, E], hw⟩
              · rintro d a W hdi hdep hcl ⟨rfl, hw⟩ K hK
                have E := hcl.facts 17 hdi rfl hdep [0, 1, 2, 3, 4, 5, 6, 7, 8, 9, 10, 11, 12, 13, 14, 15, 16] [] (by kernel_rfl) (by kernel_rfl)
                simp only [AllT, AllF] at E
                clear hdi hdep hcl
                go_simp
                exact hK _ _ ⟨by simp [upd, E], hw⟩
            · rintro d a W hall ⟨rfl, hw⟩
              have E := AllT.all hall [0, 1, 2, 3, 4, 5, 6, 7, 8, 9, 10, 11, 12, 13, 14, 15, 16, 17] (by kernel_rfl)
              simp only [AllT] at E
              simp only [E, cond_true] at hw ⊢
              clear E hall
              have HPW := Lib.hid (HP2.out.trans hw)
              clear hw
              go_wp2
              exact bodyPost_ret (v := .bool true) (by simp [results, Tryd.results80, go_sem]) rfl ⟨by rw [HF.out], HPW.out⟩
          · obtain ⟨dd, hdd⟩ : ∃ z, decide (L.p k * o2 < o1 * 1) = z := ⟨_, rfl⟩
            have HDD := Lib.hid hdd
            have HF : Hid (L.cornB k = dd) := by show _ = _; rw [HCB.out, hdd]; simp
            clear hdd
            go_wp2_with fail
            refine reg_invW (fun d a W => a = { tmps := #[Value.slice (some { block := bl, off := o }) L.n cap, Value.int IntKind.i64 (k : Int), undef, undef, (bif d 17 then Value.bool dd else u4), Value.int IntKind.i64 (k : Int), Value.pointer (some { block := g1, off := 0 }), Value.bool hb0, Value.pointer (some { block := ga, off := 0 }), Value.bool true, Value.int IntKind.i64 (k : Int), Value.int IntKind.i64 (k : Int), Value.bool false, u13, u14, u15, u16, u17, u18, u19, u20, u21, u22, u23, Value.tuple #[Value.agg #[Value.int IntKind.i64 (L.p k), Value.int IntKind.i64 1], Value.bool hb0], Value.slice (some { block := bl, off := o }) L.n cap, Value.slice (some { block := bl, off := o }) L.n cap, Value.int IntKind.i64 (k : Int), Value.pointer (some { block := bl, off := o + k * 2 }), Value.pointer (some { block := bl, off := o + k * 2 }), Value.int IntKind.i64 (L.s k), Value.tuple #[Value.agg #[Value.int IntKind.i64 (L.p k), Value.int IntKind.i64 1], Value.bool hb0], Value.agg #[Value.int IntKind.i64 (L.p k), Value.int IntKind.i64 1], Value.bool hb0, Value.tuple #[Value.agg #[Value.int IntKind.i64 (o1), Value.int IntKind.i64 (o2)], Value.bool true], Value.slice (some { block := bl, off := o }) L.n cap, Value.slice (some { block := bl, off := o }) L.n cap, Value.int IntKind.i64 (k : Nat), Value.pointer (some { block := bl, off := o + k * 2 }), Value.agg #[Value.int IntKind.i64 (L.s k), Value.int IntKind.i64 (L.p k)], Value.slice q M.n c, Value.slice (some { block := bl, off := o }) L.n cap, Value.int IntKind.i64 (k : Nat), Value.pointer (some { block := bl, off := o + k * 2 }), Value.pointer (some { block := bl, off := o + k * 2 }), Value.int IntKind.i64 (L.s k), Value.tuple #[Value.agg #[Value.int IntKind.i64 (o1), Value.int IntKind.i64 (o2)], Value.bool true], Value.agg #[Value.int IntKind.i64 (o1), Value.int IntKind.i64 (o2)], Value.bool true, (bif d 0 then Value.agg #[Value.int IntKind.i64 (L.p k), Value.int IntKind.i64 (1)] else undef), (bif d 1 then Value.slice (some { block := bl, off := o }) L.n cap else undef), (bif d 2 then Value.int IntKind.i64 (k : Nat) else undef), (bif d 3 then Value.pointer (some { block := bl, off := o + k * 2 }) else undef), (bif d 4 then Value.pointer (some { block := bl, off := o + k * 2 + 1 }) else undef), (bif d 5 then Value.int IntKind.i64 (L.p k) else undef), (bif d 6 then Value.agg #[Value.int IntKind.i64 (L.p k), Value.int IntKind.i64 (1)] else undef), (bif d 7 then Value.bool true else undef), (bif d 8 then Value.bool true else undef), (bif d 9 then Value.bool true else undef), (bif d 10 then Value.bool false else undef), (bif d 11 then Value.bool false else undef), (bif d 12 then Value.agg #[Value.int IntKind.i64 (L.p k), Value.int IntKind.i64 (1)] else undef), (bif d 13 then Value.agg #[Value.int IntKind.i64 (o1), Value.int IntKind.i64 (o2)] else undef), (bif d 14 then Value.bool dd else undef), (bif d 15 then Value.bool dd else undef), (bif d 16 then Value.bool dd else undef)], defers := [] } ∧ Pure Wq W) hmx (by kernel_rfl) ?_ ?_ ?_
            · exact ⟨rfl, (Diff.refl _).drew⟩
            · refine ⟨?_, ?_, ?_, ?_, ?_, ?_, ?_, ?_, ?_, ?_, ?_, ?_, ?_, ?_, ?_, ?_, ?_, ?_, trivial⟩
              · rintro d a W hdi hdep hcl ⟨rfl, hw⟩ K hK
                have E := hcl.facts 0 hdi rfl hdep [] [7, 8, 9, 10, 11, 12, 13, 14, 15, 16, 17] (by kernel_rfl) (by kernel_rfl)
                simp only [AllT, AllF] at E
                clear hdi hdep hcl
                have z := HK2.out.to hw
                have z0 := z.at 0
                have z1 := z.at 1
                have zl := z.lt
                clear z
                go_simp
                exact hK _ _ ⟨by simp [upd, E], hw⟩
              · rintro d a W hdi hdep hcl ⟨rfl, hw⟩ K hK
                have E := hcl.facts 1 hdi rfl hdep [] [3, 4, 5, 6, 7, 8, 9, 10, 11, 12, 13, 14, 15, 16, 17] (by kernel_rfl) (by kernel_rfl)
                simp only [AllT, AllF] at E
                clear hdi hdep hcl
                go_simp
                exact hK _ _ ⟨by simp [upd, E], hw⟩
              · rintro d a W hdi hdep hcl ⟨rfl, hw⟩ K hK
                have E := hcl.facts 2 hdi rfl hdep [] [3, 4, 5, 6, 7, 8, 9, 10, 11, 12, 13, 14, 15, 16, 17] (by kernel_rfl) (by kernel_rfl)
                simp only [AllT, AllF] at E
                clear hdi hdep hcl
                go_simp
                exact hK _ _ ⟨by simp [upd, E], hw⟩
              · rintro d a W hdi hdep hcl ⟨rfl, hw⟩ K hK
                have E := hcl.facts 3 hdi rfl hdep [1, 2] [4, 5, 6, 7, 8, 9, 10, 11, 12, 13, 14, 15, 16, 17] (by kernel_rfl) (by kernel_rfl)
                simp only [AllT, AllF] at E
                clear hdi hdep hcl
                go_simp
                exact hK _ _ ⟨by simp [upd, E], hw⟩
              · rintro d a W hdi hdep hcl ⟨rfl, hw⟩ K hK
                have E := hcl.facts 4 hdi rfl hdep [1, 2, 3] [5, 6, 7, 8, 9, 10, 11, 12, 13, 14, 15, 16, 17] (by kernel_rfl) (by kernel_rfl)
                simp only [AllT, AllF] at E
                clear hdi hdep hcl
                go_simp
                exact hK _ _ ⟨by simp [upd, E], hw⟩
              · rintro d a W hdi hdep hcl ⟨rfl, hw⟩ K hK
                have E := hcl.facts 5 hdi rfl hdep [1, 2, 3, 4] [6, 7, 8, 9, 10, 11, 12, 13, 14, 15, 16, 17] (by kernel_rfl) (by kernel_rfl)
                simp only [AllT, AllF] at E
                clear hdi hdep hcl
                have z1 := ((pcell hw).1 _ _ lb).trans e1
                go_simp
                exact hK _ _ ⟨by simp [upd, E], hw⟩
              · rintro d a W hdi hdep hcl ⟨rfl, hw⟩ K hK
                have E := hcl.facts 6 hdi rfl hdep [1, 2, 3, 4, 5] [7, 8, 9, 10, 11, 12, 13, 14, 15, 16, 17] (by kernel_rfl) (by kernel_rfl)
                simp only [AllT, AllF] at E
                clear hdi hdep hcl
                go_simp
                refine Calls.mono (RBy_any W (L.p k) 1 ⟨by have := HIS.out; omega, by have := HIS.out; omega⟩ ⟨by omega, by omega⟩) ?_
                rw [(red_one (L.p k)).1, (red_one (L.p k)).2]
                rintro e w9 ⟨rfl, hp9⟩
                exact hK _ _ ⟨by simp [upd, E], hw.trans hp9⟩
              · rintro d a W hdi hdep hcl ⟨rfl, hw⟩ K hK
                have E := hcl.facts 7 hdi rfl hdep [0, 1, 2, 3, 4, 5, 6] [8, 9, 10, 11, 12, 13, 14, 15, 16, 17] (by kernel_rfl) (by kernel_rfl)
                simp only [AllT, AllF] at E
                clear hdi hdep hcl
                go_simp
                exact hK _ _ ⟨by simp [upd, E], hw⟩
              · rintro d a W hdi hdep hcl ⟨rfl, hw⟩ K hK
                have E := hcl.facts 8 hdi rfl hdep [0, 1, 2, 3, 4, 5, 6, 7] [9, 10, 11, 12, 13, 14, 15, 16, 17] (by kernel_rfl) (by kernel_rfl)
                simp only [AllT, AllF] at E
                clear hdi hdep hcl
                go_simp
                exact hK _ _ ⟨by simp [upd, E], hw⟩
              · rintro d a W hdi hdep hcl ⟨rfl, hw⟩ K hK
                have E := hcl.facts 9 hdi rfl hdep [0, 1, 2, 3, 4, 5, 6, 7, 8] [10, 11, 12, 13, 14, 15, 16, 17] (by kernel_rfl) (by kernel_rfl)
                simp only [AllT, AllF] at E
                clear hdi hdep hcl
                go_simp
                exact hK _ _ ⟨by simp [upd, E], hw⟩
              · rintro d a W hdi hdep hcl ⟨rfl, hw⟩ K hK
                have E := hcl.facts 10 hdi rfl hdep [0, 1, 2, 3, 4, 5, 6, 7, 8, 9] [11, 12, 13, 14, 15, 16, 17] (by kernel_rfl) (by kernel_rfl)
                simp only [AllT, AllF] at E
                clear hdi hdep hcl
                go_simp
                exact hK _ _ ⟨by simp [upd, E], hw⟩
              · rintro d a W hdi hdep hcl ⟨rfl, hw⟩ K hK
                have E := hcl.facts 11 hdi rfl hdep [0, 1, 2, 3, 4, 5, 6, 7, 8, 9, 10] [12, 13, 14, 15, 16, 17] (by kernel_rfl) (by kernel_rfl)
                simp only [AllT, AllF] at E
                clear hdi hdep hcl
                go_simp
                exact hK _ _ ⟨by simp [upd, E], hw⟩
              · rintro d a W hdi hdep hcl ⟨rfl, hw⟩ K hK
                have E := hcl.facts 12 hdi rfl hdep [0, 1, 2, 3, 4, 5, 6, 7, 8, 9, 10, 11] [14, 15, 16, 17] (by kernel_rfl) (by kernel_rfl)
                simp only [AllT, AllF] at E
                clear hdi hdep hcl
                have z := HK2.out.to hw
                have z0 := z.at 0
                have z1 := z.at 1
                have zl := z.lt
                clear z
                go_simp
                exact hK _ _ ⟨by simp [upd, E], hw⟩
              · rintro d a W hdi hdep hcl ⟨rfl, hw⟩ K hK
                have E := hcl.facts 13 hdi rfl hdep [0, 1, 2, 3, 4, 5, 6, 7, 8, 9, 10, 11] [14, 15, 16, 17] (by kernel_rfl) (by kernel_rfl)
                simp only [AllT, AllF] at E
                clear hdi hdep hcl
                have z := HJ2.out.to hw
                have z0 := z.at 0
                have z1 := z.at 1
                have zl := z.lt
                clear z
                go_simp
                exact hK _ _ ⟨by simp [upd, E], hw⟩
              · rintro d a W hdi hdep hcl ⟨rfl, hw⟩ K hK
                have E := hcl.facts 14 hdi rfl hdep [0, 1, 2, 3, 4, 5, 6, 7, 8, 9, 10, 11, 12, 13] [15, 16, 17] (by kernel_rfl) (by kernel_rfl)
                simp only [AllT, AllF] at E
                clear hdi hdep hcl
                go_simp
                refine Calls.mono (RLess_any W (L.p k) 1 o1 o2 ⟨by have := HIS.out; omega, by have := HIS.out; omega⟩ ⟨by omega, by omega⟩ ⟨by have := HR1.out; omega, by have := HR1.out; omega⟩ ⟨by have := HR1.out; omega, by have := HR1.out; omega⟩) ?_
                rw [HDD.out]
                rintro e w9 ⟨rfl, hp9⟩
                exact hK _ _ ⟨by simp [upd, E], hw.trans hp9⟩
              · rintro d a W hdi hdep hcl ⟨rfl, hw⟩ K hK
                have E := hcl.facts 15 hdi rfl hdep [0, 1, 2, 3, 4, 5, 6, 7, 8, 9, 10, 11, 12, 13, 14] [16, 17] (by kernel_rfl) (by kernel_rfl)
                simp only [AllT, AllF] at E
                clear hdi hdep hcl
                go_simp
                exact hK _ _ ⟨by simp [upd, E], hw⟩
              · rintro d a W hdi hdep hcl ⟨rfl, hw⟩ K hK
                have E := hcl.facts 16 hdi rfl hdep [0, 1, 2, 3, 4, 5, 6, 7, 8, 9, 10, 11, 12, 13, 14, 15] [17] (by kernel_rfl) (by kernel_rfl)
                simp only [AllT, AllF] at E
                clear hdi hdep hcl
                go_simp
                exact hK _ _ ⟨by simp [upd, E], hw⟩
              · rintro d a W hdi hdep hcl ⟨rfl, hw⟩ K hK
                have E := hcl.facts 17 hdi rfl hdep [0, 1, 2, 3, 4, 5, 6, 7, 8, 9, 10, 11, 12, 13, 14, 15, 16] [] (by kernel_rfl) (by kernel_rfl)
                simp only [AllT, AllF] at E
                clear hdi hdep hcl
                go_simp
                exact hK _ _ ⟨by simp [upd, E], hw⟩
            · rintro d a W hall ⟨rfl, hw⟩
              have E := AllT.all hall [0, 1, 2, 3, 4, 5, 6, 7, 8, 9, 10, 11, 12, 13, 14, 15, 16, 17] (by kernel_rfl)
              simp only [AllT] at E
              simp only [E, cond_true] at hw ⊢
              clear E hall
              have HPW := Lib.hid (HP2.out.trans hw)
              clear hw
              go_wp2
              exact bodyPost_ret (v := .bool dd) (by simp [results, Tryd.results80, go_sem]) rfl ⟨by rw [HF.out], HPW.out⟩
        · have hne : a1 = L.p k → ¬ a2 = 1 := fun h h' => hcn ⟨h, h'⟩
          have HF : Hid (L.cornB k = false) := by
            show _ = _
            have h : (a1 == L.p k && a2 == 1) = false := by simpa using hne
            rw [HCB.out, h]; rfl
          clear hcn
          go_wp2_with fail
          refine reg_invW (fun d a W => a = { tmps := #[Value.slice (some { block := bl, off := o }) L.n cap, Value.int IntKind.i64 (k : Int), undef, undef, (bif d 17 then Value.bool false else u4), Value.int IntKind.i64 (k : Int), Value.pointer (some { block := g1, off := 0 }), Value.bool hb0, Value.pointer (some { block := ga, off := 0 }), Value.bool hb1, Value.int IntKind.i64 (k : Int), Value.int IntKind.i64 (k : Int), Value.bool false, u13, u14, u15, u16, u17, u18, u19, u20, u21, u22, u23, Value.tuple #[Value.agg #[Value.int IntKind.i64 a1, Value.int IntKind.i64 a2], Value.bool hb0], Value.slice (some { block := bl, off := o }) L.n cap, Value.slice (some { block := bl, off := o }) L.n cap, Value.int IntKind.i64 (k : Int), Value.pointer (some { block := bl, off := o + k * 2 }), Value.pointer (some { block := bl, off := o + k * 2 }), Value.int IntKind.i64 (L.s k), Value.tuple #[Value.agg #[Value.int IntKind.i64 a1, Value.int IntKind.i64 a2], Value.bool hb0], Value.agg #[Value.int IntKind.i64 a1, Value.int IntKind.i64 a2], Value.bool hb0, Value.tuple #[Value.agg #[Value.int IntKind.i64 (o1), Value.int IntKind.i64 (o2)], Value.bool hb1], Value.slice (some { block := bl, off := o }) L.n cap, Value.slice (some { block := bl, off := o }) L.n cap, Value.int IntKind.i64 (k : Nat), Value.pointer (some { block := bl, off := o + k * 2 }), Value.agg #[Value.int IntKind.i64 (L.s k), Value.int IntKind.i64 (L.p k)], Value.slice q M.n c, Value.slice (some { block := bl, off := o }) L.n cap, Value.int IntKind.i64 (k : Nat), Value.pointer (some { block := bl, off := o + k * 2 }), Value.pointer (some { block := bl, off := o + k * 2 }), Value.int IntKind.i64 (L.s k), Value.tuple #[Value.agg #[Value.int IntKind.i64 (o1), Value.int IntKind.i64 (o2)], Value.bool hb1], Value.agg #[Value.int IntKind.i64 (o1), Value.int IntKind.i64 (o2)], Value.bool hb1, (bif d 0 then Value.agg #[Value.int IntKind.i64 (a1), Value.int IntKind.i64 (a2)] else undef), (bif d 1 then Value.slice (some { block := bl, off := o }) L.n cap else undef), (bif d 2 then Value.int IntKind.i64 (k : Nat) else undef), (bif d 3 then Value.pointer (some { block := bl, off := o + k * 2 }) else undef), (bif d 4 then Value.pointer (some { block := bl, off := o + k * 2 + 1 }) else undef), (bif d 5 then Value.int IntKind.i64 (L.p k) else undef), (bif d 6 then Value.agg #[Value.int IntKind.i64 (L.p k), Value.int IntKind.i64 (1)] else undef), (bif d 7 then Value.bool false else undef), (bif d 8 then Value.bool false else undef), (bif d 9 then undef else undef), (bif d 10 then undef else undef), (bif d 11 then undef else undef), (bif d 12 then undef else undef), (bif d 13 then undef else undef), (bif d 14 then undef else undef), (bif d 15 then undef else undef), (bif d 16 then Value.bool false else undef)], defers := [] } ∧ Pure Wq W) hmx (by kernel_rfl) ?_ ?_ ?_
          · exact ⟨rfl, (Diff.refl _).drew⟩
          · refine ⟨?_, ?_, ?_, ?_, ?_, ?_, ?_, ?_, ?_, ?_, ?_, ?_, ?_, ?_, ?_, ?_, ?_, ?_, trivial⟩
            · rintro d a W hdi hdep hcl ⟨rfl, hw⟩ K hK
              have E := hcl.facts 0 hdi rfl hdep [] [7, 8, 9, 10, 11, 12, 13, 14, 15, 16, 17] (by kernel_rfl) (by kernel_rfl)
              simp only [AllT, AllF] at E
              clear hdi hdep hcl
              have z := HK2.out.to hw
              have z0 := z.at 0
              have z1 := z.at 1
              have zl := z.lt
              clear z
              go_simp
              exact hK _ _ ⟨by simp [upd, E], hw⟩
            · rintro d a W hdi hdep hcl ⟨rfl, hw⟩ K hK
              have E := hcl.facts 1 hdi rfl hdep [] [3, 4, 5, 6, 7, 8, 9, 10, 11, 12, 13, 14, 15, 16, 17] (by kernel_rfl) (by kernel_rfl)
              simp only [AllT, AllF] at E
              clear hdi hdep hcl
              go_simp
              exact hK _ _ ⟨by simp [upd, E], hw⟩
            · rintro d a W hdi hdep hcl ⟨rfl, hw⟩ K hK
              have E := hcl.facts 2 hdi rfl hdep [] [3, 4, 5, 6, 7, 8, 9, 10, 11, 12, 13, 14, 15, 16, 17] (by kernel_rfl) (by kernel_rfl)
              simp only [AllT, AllF] at E
              clear hdi hdep hcl
              go_simp
              exact hK _ _ ⟨by simp [upd, E], hw⟩
            · rintro d a W hdi hdep hcl ⟨rfl, hw⟩ K hK
              have E := hcl.facts 3 hdi rfl hdep [1, 2] [4, 5, 6, 7, 8, 9, 10, 11, 12, 13, 14, 15, 16, 17] (by kernel_rfl) (by kernel_rfl)
              simp only [AllT, AllF] at E
              clear hdi hdep hcl
              go_simp
              exact hK _ _ ⟨by simp [upd, E], hw⟩
            · rintro d a W hdi hdep hcl ⟨rfl, hw⟩ K hK
              have E := hcl.facts 4 hdi rfl hdep [1, 2, 3] [5, 6, 7, 8, 9, 10, 11, 12, 13, 14, 15, 16, 17] (by kernel_rfl) (by kernel_rfl)
              simp only [AllT, AllF] at E
              clear hdi hdep hcl
              go_simp
              exact hK _ _ ⟨by simp [upd, E], hw⟩
            · rintro d a W hdi hdep hcl ⟨rfl, hw⟩ K hK
              have E := hcl.facts 5 hdi rfl hdep [1, 2, 3, 4] [6, 7, 8, 9, 10, 11, 12, 13, 14, 15, 16, 17] (by kernel_rfl) (by kernel_rfl)
              simp only [AllT, AllF] at E
              clear hdi hdep hcl
              have z1 := ((pcell hw).1 _ _ lb).trans e1
              go_simp
              exact hK _ _ ⟨by simp [upd, E], hw⟩
            · rintro d a W hdi hdep hcl ⟨rfl, hw⟩ K hK
              have E := hcl.facts 6 hdi rfl hdep [1, 2, 3, 4, 5] [7, 8, 9, 10, 11, 12, 13, 14, 15, 16, 17] (by kernel_rfl) (by kernel_rfl)
              simp only [AllT, AllF] at E
              clear hdi hdep hcl
              go_simp
              refine Calls.mono (RBy_any W (L.p k) 1 ⟨by have := HIS.out; omega, by have := HIS.out; omega⟩ ⟨by omega, by omega⟩) ?_
              rw [(red_one (L.p k)).1, (red_one (L.p k)).2]
              rintro e w9 ⟨rfl, hp9⟩
              exact hK _ _ ⟨by simp [upd, E], hw.trans hp9⟩
            · rintro d a W hdi hdep hcl ⟨rfl, hw⟩ K hK
              have E := hcl.facts 7 hdi rfl hdep [0, 1, 2, 3, 4, 5, 6] [8, 9, 10, 11, 12, 13, 14, 15, 16, 17] (by kernel_rfl) (by kernel_rfl)
              simp only [AllT, AllF] at E
              clear hdi hdep hcl
              by_cases h1 : a1 = L.p k
              · have h2 : ¬ a2 = 1 := hne h1
                clear h1
                go_simp
                exact hK _ _ ⟨by simp [upd, E], hw⟩
              · go_simp
                exact hK _ _ ⟨by simp [upd, E], hw⟩
            · rintro d a W hdi hdep hcl ⟨rfl, hw⟩ K hK
              have E := hcl.facts 8 hdi rfl hdep [0, 1, 2, 3, 4, 5, 6, 7] [9, 10, 11, 12, 13, 14, 15, 16, 17] (by kernel_rfl) (by kernel_rfl)
              simp only [AllT, AllF] at E
              clear hdi hdep hcl
              go_simp
              exact hK _ _ ⟨by simp [upd, E], hw⟩
            · rintro d a W hdi hdep hcl ⟨rfl, hw⟩ K hK
              have E := hcl.facts 9 hdi rfl hdep [0, 1, 2, 3, 4, 5, 6, 7, 8] [10, 11, 12, 13, 14, 15, 16, 17] (by kernel_rfl) (by kernel_rfl)
              simp only [AllT, AllF] at E
              clear hdi hdep hcl
              go_simp
              exact hK _ _ ⟨by simp [upd, E], hw⟩
            · rintro d a W hdi hdep hcl ⟨rfl, hw⟩ K hK
              have E := hcl.facts 10 hdi rfl hdep [0, 1, 2, 3, 4, 5, 6, 7, 8, 9] [11, 12, 13, 14, 15, 16, 17] (by kernel_rfl) (by kernel_rfl)
              simp only [AllT, AllF] at E
              clear hdi hdep hcl
              go_simp
              exact hK _ _ ⟨by simp [upd, E], hw⟩
            · rintro d a W hdi hdep hcl ⟨rfl, hw⟩ K hK
              have E := hcl.facts 11 hdi rfl hdep [0, 1, 2, 3, 4, 5, 6, 7, 8, 9, 10] [12, 13, 14, 15, 16, 17] (by kernel_rfl) (by kernel_rfl)
              simp only [AllT, AllF] at E
              clear hdi hdep hcl
              go_simp
              exact hK _ _ ⟨by simp [upd, E], hw⟩
            · rintro d a W hdi hdep hcl ⟨rfl, hw⟩ K hK
              have E := hcl.facts 12 hdi rfl hdep [0, 1, 2, 3, 4, 5, 6, 7, 8, 9, 10, 11] [14, 15, 16, 17] (by kernel_rfl) (by kernel_rfl)
              simp only [AllT, AllF] at E
              clear hdi hdep hcl
              go_simp
              exact hK _ _ ⟨by simp [upd, E], hw⟩
            · rintro d a W hdi hdep hcl ⟨rfl, hw⟩ K hK
              have E := hcl.facts 13 hdi rfl hdep [0, 1, 2, 3, 4, 5, 6, 7, 8, 9, 10, 11] [14, 15, 16, 17] (by kernel_rfl) (by kernel_rfl)
              simp only [AllT, AllF] at E
              clear hdi hdep hcl
              go_simp
              exact hK _ _ ⟨by simp [upd, E], hw⟩
            · rintro d a W hdi hdep hcl ⟨rfl, hw⟩ K hK
              have E := hcl.facts 14 hdi rfl hdep [0, 1, 2, 3, 4, 5, 6, 7, 8, 9, 10, 11, 12, 13] [15, 16, 17] (by kernel_rfl) (by kernel_rfl)
              simp only [AllT, AllF] at E
              clear hdi hdep hcl
              go_simp
              exact hK _ _ ⟨by simp [upd, E], hw⟩
            · rintro d a W hdi hdep hcl ⟨rfl, hw⟩ K hK
              have E := hcl.facts 15 hdi rfl hdep [0, 1, 2, 3, 4, 5, 6, 7, 8, 9, 10, 11, 12, 13, 14] [16, 17] (by kernel_rfl) (by kernel_rfl)
              simp only [AllT, AllF] at E
              clear hdi hdep hcl
              go_simp
              exact hK _ _ ⟨by simp [upd, E], hw⟩
            · rintro d a W hdi hdep hcl ⟨rfl, hw⟩ K hK
              have E := hcl.facts 16 hdi rfl hdep [0, 1, 2, 3, 4, 5, 6, 7, 8, 9, 10, 11, 12, 13, 14, 15] [17] (by kernel_rfl) (by kernel_rfl)
              simp only [AllT, AllF] at E
              clear hdi hdep hcl
              go_simp
              exact hK _ _ ⟨by simp [upd, E], hw⟩
            · rintro d a W hdi hdep hcl ⟨rfl, hw⟩ K hK
              have E := hcl.facts 17 hdi rfl hdep [0, 1, 2, 3, 4, 5, 6, 7, 8, 9, 10, 11, 12, 13, 14, 15, 16] [] (by kernel_rfl) (by kernel_rfl)
              simp only [AllT, AllF] at E
              clear hdi hdep hcl
              go_simp
              exact hK _ _ ⟨by simp [upd, E], hw⟩
          · rintro d a W hall ⟨rfl, hw⟩
            have E := AllT.all hall [0, 1, 2, 3, 4, 5, 6, 7, 8, 9, 10, 11, 12, 13, 14, 15, 16, 17] (by kernel_rfl)
            simp only [AllT] at E
            simp only [E, cond_true] at hw ⊢
            clear E hall
            have HPW := Lib.hid (HP2.out.trans hw)
            clear hw
            go_wp2
            exact bodyPost_ret (v := .bool false) (by simp [results, Tryd.results80, go_sem]) rfl ⟨by rw [HF.out], HPW.out⟩
end Go.Proofs.YtgpfmnjianflaaaDoor
