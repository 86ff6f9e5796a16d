/- The reference: the walk of CheckRound. What the calls of the examples answer. What the calls of the chapter's examples answer, more of them. -/
import Derived.Test.YtmedkmbfggphdaaDoorM18
set_option linter.unusedSimpArgs false
set_option linter.unusedVariables false
set_option linter.constructorNameAsVariable false
namespace Go.Proofs.YtmedkmbfggphdaaDoor
open Go.RowKit

theorem Bound_any (w : World) (b : BK) (p : Option Addr) (cap : Nat) (a c but : Int) (hv : b.Valid) (hb : BookAt w.heap.size w p b) (ha : 0 ≤ a) (ha2 : a < 1 + b.lots + b.total) (hc : 0 ≤ c) (hc2 : c < 1 + b.lots + b.total) :
    Calls Tryd.prog 81 #[bookV b p cap, .int .i64 a, .int .i64 c, .int .i64 but] w fun e w' => e = .returned (.tuple #[.int .i64 ((b.bd but a c).getD 0), .bool (b.bd but a c).isSome]) ∧ Pure w w' := by
  have kind : ∀ z : Int, 0 ≤ z → z < 1 + b.lots + b.total → z = 0 ∨ (1 ≤ z ∧ z ≤ b.lots) ∨ ∃ r : Nat, r < b.total ∧ z - b.lots - 1 = r := fun z h1 h2 => by
    by_cases h3 : z = 0
    · exact .inl h3
    · by_cases h4 : z ≤ b.lots
      · exact .inr (.inl ⟨by omega, h4⟩)
      · exact .inr (.inr ⟨(z - b.lots - 1).toNat, by omega, by omega⟩)
  rcases kind a ha ha2 with h | h | h <;> rcases kind c hc hc2 with k | k | k
  · exact Bound_A0 w b p cap a c but hv hb ha ha2 hc hc2 h k
  · exact Bound_A1 w b p cap a c but hv hb ha ha2 hc hc2 h k
  · exact Bound_A2 w b p cap a c but hv hb ha ha2 hc hc2 h k
  · exact Bound_B0 w b p cap a c but hv hb ha ha2 hc hc2 h k
  · exact Bound_B1 w b p cap a c but hv hb ha ha2 hc hc2 h k
  · exact Bound_B2 w b p cap a c but hv hb ha ha2 hc hc2 h k
  · exact Bound_C0 w b p cap a c but hv hb ha ha2 hc hc2 h k
  · exact Bound_C1 w b p cap a c but hv hb ha ha2 hc hc2 h k
  · exact Bound_C2 w b p cap a c but hv hb ha ha2 hc hc2 h k

/-- The same of the net. -/
theorem Bound_net (w : World) (b : BK) (p : Option Addr) (cap : Nat) (a c : Int) (hv : b.Valid) (hb : BookAt w.heap.size w p b) (ha : 0 ≤ a) (ha2 : a < 1 + b.lots + b.total) (hc : 0 ≤ c) (hc2 : c < 1 + b.lots + b.total) :
    Calls Tryd.prog 81 #[bookV b p cap, .int .i64 a, .int .i64 c, .int .i64 (-1)] w fun e w' => e = .returned (.tuple #[.int .i64 ((boundO b.es a c).getD 0), .bool (boundO b.es a c).isSome]) ∧ Pure w w' := by
  rw [b.bound_eq hv a c ha ha2 hc hc2]
  exact Bound_any w b p cap a c (-1) hv hb ha ha2 hc hc2

set_option maxRecDepth 20000 in
set_option maxHeartbeats 20000000 in
theorem RCheckRound_any (w : World) (b : BK) (p q : Option Addr) (cap n c : Nat) (f : Nat → Int) (hs : b.Small) (hb : BookAt w.heap.size w p b) (hn : n ≤ 1000) (hr : Row w.heap.size w q n fun k => .int .i64 (f k)) :
    Calls Tryd.prog 40 #[bookV b p cap, .slice q n c] w fun e w' => e = .returned (.tuple #[.int .i64 (roundC b f n).1, .int .i64 (roundC b f n).2]) ∧ Pure w w' := by
  go_enter Tryd.func40, Tryd.ntmps40
  go_wp2_with fail
  obtain ⟨X, hX⟩ : ∃ X, w.alloc (.cells (bookC b p cap) 26) = X := ⟨_, rfl⟩
  have hP : Hid (Pure w X) := by rw [← hX]; exact (Diff.refl w).alloc _
  have hX1 : BoxB w.heap.size b p cap X := by rw [← hX]; exact BoxB.new w b p cap 26
  rw [hX]
  clear hX
  have HB := Lib.hid hX1
  obtain ⟨c0, c1, c2, c3, cl⟩ := hX1
  obtain ⟨gb, hgb⟩ : ∃ gb, w.heap.size = gb := ⟨_, rfl⟩
  rw [hgb] at c0 c1 c2 c3 cl HB ⊢
  have HHB : Hid (BookAt w.heap.size w p b) := hb
  have HR : Hid (Row w.heap.size w q n fun k => .int .i64 (f k)) := hr
  clear hgb hb hr
  go_wp2_with fail
  refine (RCheckBook_any X b p cap hs ((HHB.out.diff hP.out (Nat.le_refl _) (fun _ _ => id)).mono hP.out.size)).mono ?_
  rintro e w1 ⟨rfl, hp1⟩
  have hP1 : Hid (Pure w w1) := hP.out.trans hp1
  have HB1 := Lib.hid (HB.out.pure hp1)
  clear c0 c1 c2 c3 cl HB hp1 hP
  obtain ⟨c0, c1, c2, c3, cl⟩ := HB1.out
  by_cases hck : checkB b = 0
  · have hv := checkB_valid hck
    have HCK := Lib.hid hck
    have hl1 := hv.lots1
    have hl6 := hv.lots6
    have h12 := hv.tot
    rw [hck]
    clear hck
    by_cases hn0 : n = 0
    · subst hn0
      go_wp2_with fail
      exact bodyPost_ret (v := .tuple #[.int .i64 0, .int .i64 6]) (by simp [results, Tryd.results40, go_sem]) rfl ⟨by unfold roundC; rw [if_neg (by have := HCK.out; omega), if_pos rfl], hP1.out⟩
    · have hn1 : 1 ≤ n := by omega
      obtain ⟨qb, qo, rfl, hqb, -⟩ := HR.out 0 (by omega)
      have hrow : Hid (∀ k, k < n → w1.cell? ⟨qb, qo + k, none⟩ = some (.int .i64 (f k))) := fun k hk => by
        obtain ⟨b1, o1, he, _, hc1⟩ := HR.out k hk
        cases he
        exact ((pcell hP1.out).1 _ _ hqb).trans hc1
      have hqb1 : qb < w1.heap.size := Nat.lt_of_lt_of_le hqb hP1.out.size
      have hn0i : ((n : Int) == 0) = false := by simp; omega
      have HN0 := Lib.hid hn0
      obtain ⟨Nn, hNn⟩ : ∃ Nn : Nat, 1 + b.lots.toNat + b.total = Nn := ⟨_, rfl⟩
      have HNN : Hid ((Nn : Int) = 1 + b.lots + b.total) := by show _ = _; omega
      have HDN := Lib.hid hNn
      clear hNn hn0 c0 c1 c2 c3 cl
      have hBk1 : Hid (BookAt w1.heap.size w1 p b) := (HHB.out.diff hP1.out (Nat.le_refl _) (fun _ _ => id)).mono hP1.out.size
      go_wp2_with fail
      go_loopw [7] (fun i wr => ∃ k : Nat, k ≤ n ∧ i = .int .i64 k ∧ Hid (diffTo Nn f k = true) ∧ Hid (Pure w1 wr)) (fun i _ => n - (intOf i).toNat)
      case atStart => exact ⟨0, Nat.zero_le _, rfl, rfl, Diff.refl _⟩
      case round =>
        obtain ⟨k, hk, rfl, HDF, HPr⟩ := hrel
        by_cases hkn : k < n
        · have hki : (k : Int) < n := by omega
          have hk0 : (0 : Int) ≤ k := by omega
          have hqr : qb < wr.heap.size := Nat.lt_of_lt_of_le hqb1 HPr.out.size
          have zk := ((pcell HPr.out).1 _ _ hqb1).trans (hrow.out k hkn)
          obtain ⟨c0, c1, c2, c3, cl⟩ := HB1.out.pure HPr.out
          have hp0 : Hid (Pure wr wr.drew) := (Diff.refl wr).drew
          have KEY : Hid (∀ w', Pure wr w' → (w'.cell? ⟨gb, 0, none⟩ = some (.int .i64 b.lo) ∧ w'.cell? ⟨gb, 1, none⟩ = some (.int .i64 b.hi) ∧ w'.cell? ⟨gb, 2, none⟩ = some (.int .i64 b.lots) ∧ w'.cell? ⟨gb, 3, none⟩ = some (.slice p b.n cap) ∧ w'.cell? ⟨qb, qo + k, none⟩ = some (.int .i64 (f k)) ∧ Hid (Pure wr w'))) :=
            fun w' hp => ⟨((pcell hp).1 _ _ cl).trans c0, ((pcell hp).1 _ _ cl).trans c1, ((pcell hp).1 _ _ cl).trans c2, ((pcell hp).1 _ _ cl).trans c3, ((pcell hp).1 _ _ hqr).trans zk, hp⟩
          have hHD := Lib.hid HDF.out
          by_cases hlo : f k < 0
          · have HLO := Lib.hid hlo
            go_wp2_with fail
            have hlo1 : f k < 0 := HLO.out
            go_region
            go_wp2_with fail
            exact bodyPost_ret (v := .tuple #[.int .i64 0, .int .i64 2]) (by simp [results, Tryd.results40, go_sem]) rfl ⟨by unfold roundC; rw [if_neg (by have := HCK.out; omega), if_neg HN0.out, HDN.out, if_pos (diffTo_false (k := k) hkn (by unfold dOk; rw [decide_eq_false (by have := HLO.out; omega)]; rfl))], hP1.out.trans (HPr.out.trans hp0.out)⟩
          · have HLO := Lib.hid hlo
            go_wp2_with fail
            have hlo1 : ¬ f k < 0 := by have := HLO.out; omega
            go_region_held3 (fun w' => w'.cell? ⟨gb, 0, none⟩ = some (.int .i64 b.lo) ∧ w'.cell? ⟨gb, 1, none⟩ = some (.int .i64 b.hi) ∧ w'.cell? ⟨gb, 2, none⟩ = some (.int .i64 b.lots) ∧ w'.cell? ⟨gb, 3, none⟩ = some (.slice p b.n cap) ∧ w'.cell? ⟨qb, qo + k, none⟩ = some (.int .i64 (f k)) ∧ Hid (Pure wr w'))
              (exact KEY.out _ (by first | exact hp0.out | exact hp0.out.trans hp5))
              (first | (go_at_call 80; refine (Names_any _ b _ _ hv ?_).mono ?_; (exact (hBk1.out.diff (HPr.out.trans hp0.out) (Nat.le_refl _) (fun _ _ => id)).mono (HPr.out.trans hp0.out).size); rintro e w5 ⟨rfl, hp5⟩))
            rename_i hHeld
            obtain ⟨-, -, -, -, zk5, hp5⟩ := hHeld
            have HPk : Hid (Pure w1 w5) := HPr.out.trans hp5.out
            have hqk : qb < w5.heap.size := Nat.lt_of_lt_of_le hqb1 HPk.out.size
            clear KEY
            by_cases hbig : 1 + b.lots + b.total ≤ f k
            · have HBIG := Lib.hid hbig
              go_wp2_with fail
              exact bodyPost_ret (v := .tuple #[.int .i64 0, .int .i64 2]) (by simp [results, Tryd.results40, go_sem]) rfl ⟨by unfold roundC; rw [if_neg (by have := HCK.out; omega), if_neg HN0.out, HDN.out, if_pos (diffTo_false (k := k) hkn (by unfold dOk; rw [decide_eq_false (p := f k < Nn) (by have := HBIG.out; have := HNN.out; omega)]; simp))], hP1.out.trans HPk.out⟩
            · have HBIG := Lib.hid hbig
              go_wp2_with fail
              go_loopw [8] (fun j wj => ∃ g : Nat, g ≤ k ∧ j = .int .i64 g ∧ Hid ((∀ x, x < g → ¬ f x = f k)) ∧ Hid (Pure w5 wj)) (fun j _ => k - (intOf j).toNat)
              case atStart => exact ⟨0, Nat.zero_le _, rfl, fun x hx => absurd hx (by omega), Diff.refl _⟩
              case round =>
                obtain ⟨g, hg, rfl, HG, HPj⟩ := hrel
                by_cases hgk : g < k
                · have hgi : (g : Int) < k := by omega
                  have hg0 : (0 : Int) ≤ g := by omega
                  have hgn : (g : Int) < n := by omega
                  have hqj : qb < wr.heap.size := Nat.lt_of_lt_of_le hqk HPj.out.size
                  have yk := ((pcell HPj.out).1 _ _ hqk).trans zk5
                  have yg := ((pcell (HPk.out.trans HPj.out)).1 _ _ hqb1).trans (hrow.out g (by omega))
                  clear zk5
                  by_cases hgg : f g = f k
                  · have HGG := Lib.hid hgg
                    have h1 : (f g == f k) = true := by rw [hgg]; simp
                    clear hgg
                    go_wp2_with fail
                    go_region
                    go_wp2_with fail
                    exact bodyPost_ret (v := .tuple #[.int .i64 0, .int .i64 2]) (by simp [results, Tryd.results40, go_sem]) rfl ⟨by unfold roundC; rw [if_neg (by have := HCK.out; omega), if_neg HN0.out, HDN.out, if_pos (diffTo_false (k := k) hkn (by unfold dOk; rw [show ((List.range k).any fun j => f j == f k) = true from List.any_eq_true.2 ⟨g, by simpa using hgk, by simp [HGG.out]⟩]; simp))], hP1.out.trans (HPk.out.trans (HPj.out.trans (Diff.refl _).drew))⟩
                  · have HGG := Lib.hid hgg
                    have h1 : (f g == f k) = false := by simp [hgg]
                    clear hgg
                    go_wp2_with fail
                    go_region
                    go_wp2_with fail
                    · refine ⟨⟨g + 1, by omega, by push_cast; rfl, fun x hx => ?_, HPj.out.trans (Diff.refl _).drew⟩, by simp only [intOf]; omega⟩
                      by_cases hxg : x = g
                      · subst hxg; exact HGG.out
                      · exact HG.out x (by omega)
                · obtain rfl : g = k := by omega
                  go_wp2_with fail
                  · refine ⟨⟨g + 1, by omega, by push_cast; rfl, ?_, (HPr.out.trans hp5.out).trans HPj.out⟩, by simp only [intOf]; omega⟩
                    show _ = _
                    rw [diffTo_succ, HDF.out]
                    unfold dOk
                    rw [decide_eq_true (by have := HLO.out; omega), decide_eq_true (by have := HBIG.out; have := HNN.out; omega)]
                    simp only [Bool.true_and, Bool.not_eq_true', List.any_eq_false, List.mem_range, beq_iff_eq]
                    exact fun x hx => HG.out x hx
        · obtain rfl : n = k := by omega
          go_wp2_with fail
          have hPn : Hid (Pure w1 wr) := HPr
          obtain ⟨W, hW⟩ : ∃ W, wr = W := ⟨_, rfl⟩
          rw [hW] at hPn ⊢
          clear hW HPr wr
          have hgd := b.netM_good hv
          have hqW : qb < W.heap.size := Nat.lt_of_lt_of_le hqb1 hPn.out.size
          have HDF' := Lib.hid HDF.out
          have hrange : Hid (∀ x, x < n → 0 ≤ f x ∧ f x < 1 + b.lots + b.total) := fun x hx => by
            have h := HDF'.out
            unfold diffTo at h
            have := List.all_eq_true.1 h x (by simpa using hx)
            unfold dOk at this
            simp only [Bool.and_eq_true, decide_eq_true_eq] at this
            have := HNN.out
            omega
          go_loopw [9, 10] (fun s i wr => ∃ k : Nat, k ≤ n ∧ i = .int .i64 k ∧ s = .int .i64 (sumTo b.es f n k) ∧ Hid (joinsTo b.es f n k = true) ∧ Hid (Pure W wr)) (fun _ i _ => n - (intOf i).toNat)
          case atStart => exact ⟨0, Nat.zero_le _, rfl, rfl, rfl, Diff.refl _⟩
          case round =>
            obtain ⟨i, hi, rfl, rfl, HJ, HPr⟩ := hrel
            have hsm : -1000 * (i : Int) ≤ sumTo b.es f n i ∧ sumTo b.es f n i ≤ 1000 * (i : Int) := sumTo_small hgd f n i
            have hsm1 : -1000000 ≤ sumTo b.es f n i := by omega
            have hsm2 : sumTo b.es f n i ≤ 1000000 := by omega
            clear hsm
            by_cases hin : i < n
            · have hii : (i : Int) < n := by omega
              have hi0 : (0 : Int) ≤ i := by omega
              obtain ⟨j, hj⟩ : ∃ j, (i + 1) % n = j := ⟨_, rfl⟩
              have hjn : j < n := by rw [← hj]; exact Nat.mod_lt _ (by omega)
              have hrem : (IntKind.i64.wrap ((i : Int) + 1)).tmod n = j := by
                rw [show IntKind.i64.wrap ((i : Int) + 1) = ((i + 1 : Nat) : Int) from (IntKind.wrap_i64 _).trans (by omega), ← hj]; exact (Int.ofNat_tmod _ _).symm
              have hjj : (j : Int) < n := by omega
              have hj0 : (0 : Int) ≤ j := by omega
              have hqr : qb < wr.heap.size := Nat.lt_of_lt_of_le hqW HPr.out.size
              have hp0 : Hid (Pure wr wr.drew) := (Diff.refl wr).drew
              have HWr : Hid (Pure w1 wr) := hPn.out.trans HPr.out
              have zi := ((pcell HWr.out).1 _ _ hqb1).trans (hrow.out i hin)
              have zj := ((pcell HWr.out).1 _ _ hqb1).trans (hrow.out j hjn)
              obtain ⟨c0, c1, c2, c3, cl⟩ := HB1.out.pure HWr.out
              have KEY : Hid (∀ w', Pure wr w' → (fun w' => w'.cell? ⟨gb, 0, none⟩ = some (.int .i64 b.lo) ∧ w'.cell? ⟨gb, 1, none⟩ = some (.int .i64 b.hi) ∧ w'.cell? ⟨gb, 2, none⟩ = some (.int .i64 b.lots) ∧ w'.cell? ⟨gb, 3, none⟩ = some (.slice p b.n cap) ∧ w'.cell? ⟨qb, qo + i, none⟩ = some (.int .i64 (f i)) ∧ w'.cell? ⟨qb, qo + j, none⟩ = some (.int .i64 (f j)) ∧ Hid (Pure wr w')) w') := fun w' hp => ⟨((pcell hp).1 _ _ cl).trans c0, ((pcell hp).1 _ _ cl).trans c1, ((pcell hp).1 _ _ cl).trans c2, ((pcell hp).1 _ _ cl).trans c3, ((pcell hp).1 _ _ hqr).trans zi, ((pcell hp).1 _ _ hqr).trans zj, hp⟩
              obtain ⟨o, ho⟩ : ∃ o, boundO b.es (f i) (f j) = o := ⟨_, rfl⟩
              have HO := Lib.hid ho
              have HJJ := Lib.hid hj
              have hBw : Hid (BookAt wr.drew.heap.size wr.drew p b) := (HHB.out.diff (hP1.out.trans (HWr.out.trans hp0.out)) (Nat.le_refl _) (fun _ _ => id)).mono (hP1.out.trans (HWr.out.trans hp0.out)).size
              clear ho hj zi zj
              have hn0n : ¬ n = 0 := HN0.out
              go_wp2_with fail
              go_region_held3 (fun w' => w'.cell? ⟨gb, 0, none⟩ = some (.int .i64 b.lo) ∧ w'.cell? ⟨gb, 1, none⟩ = some (.int .i64 b.hi) ∧ w'.cell? ⟨gb, 2, none⟩ = some (.int .i64 b.lots) ∧ w'.cell? ⟨gb, 3, none⟩ = some (.slice p b.n cap) ∧ w'.cell? ⟨qb, qo + i, none⟩ = some (.int .i64 (f i)) ∧ w'.cell? ⟨qb, qo + j, none⟩ = some (.int .i64 (f j)) ∧ Hid (Pure wr w'))
                (exact KEY.out _ (by first | exact hp0.out | exact hp0.out.trans hp5))
                (first | (go_at_call 81; refine (Bound_net _ b p cap (f i) (f j) hv hBw.out (hrange.out i hin).1 (hrange.out i hin).2 (hrange.out j hjn).1 (hrange.out j hjn).2).mono ?_; rw [HO.out]; rintro e w5 ⟨rfl, hp5⟩))
              rename_i hHeld
              obtain ⟨-, -, -, -, -, -, hp5⟩ := hHeld
              have hb5 := boundO_small hgd (f i) (f j)
              have hOs : -1000 ≤ o.getD 0 ∧ o.getD 0 ≤ 1000 := by rw [← HO.out]; exact hb5
              have h51 := hOs.1
              have h52 := hOs.2
              clear hOs hb5 KEY c0 c1 c2 c3 cl
              cases o with
              | none =>
                go_wp2_with fail
                exact bodyPost_ret (v := .tuple #[.int .i64 0, .int .i64 16]) (by simp [results, Tryd.results40, go_sem]) rfl ⟨by unfold roundC; rw [if_neg (by have := HCK.out; omega), if_neg HN0.out, HDN.out, if_neg (by rw [HDF'.out]; simp), if_pos (joinsTo_false hin (by rw [HJJ.out, HO.out]; rfl))], hP1.out.trans (hPn.out.trans (HPr.out.trans hp5.out))⟩
              | some v =>
                simp only [Option.getD_some] at h51 h52
                go_wp2_with fail
                refine ⟨⟨i + 1, by omega, by push_cast; rfl, ?_, ?_, HPr.out.trans hp5.out⟩, by simp only [intOf]; omega⟩
                · show _ = Value.int .i64 (sumTo b.es f n i + (boundO b.es (f i) (f ((i + 1) % n))).getD 0)
                  rw [HJJ.out, HO.out]; rfl
                · show _ = _
                  rw [joinsTo_succ, HJ.out, HJJ.out, HO.out]; rfl
            · obtain rfl : n = i := by omega
              by_cases h5 : -(sumTo b.es f n n) ≤ 0
              · have h6 : 0 ≤ sumTo b.es f n n := by omega
                have H5 := Lib.hid h5
                clear h5
                go_wp2_with fail
                exact bodyPost_ret (v := .tuple #[.int .i64 0, .int .i64 14]) (by simp [results, Tryd.results40, go_sem]) rfl ⟨by unfold roundC; rw [if_neg (by have := HCK.out; omega), if_neg HN0.out, HDN.out, if_neg (by rw [HDF'.out]; simp), if_neg (by rw [HJ.out]; simp), if_pos H5.out], hP1.out.trans (hPn.out.trans HPr.out)⟩
              · have h6 : ¬ 0 ≤ sumTo b.es f n n := by omega
                have H5 : Hid (¬ -(sumTo b.es f n n) ≤ 0) := h5
                clear h5
                go_wp2_with fail
                exact bodyPost_ret (v := .tuple #[.int .i64 (-(sumTo b.es f n n)), .int .i64 0]) (by simp [results, Tryd.results40, go_sem]) rfl ⟨by unfold roundC; rw [if_neg (by have := HCK.out; omega), if_neg HN0.out, HDN.out, if_neg (by rw [HDF'.out]; simp), if_neg (by rw [HJ.out]; simp), if_neg (by have := H5.out; omega)], hP1.out.trans (hPn.out.trans HPr.out)⟩
  · go_wp2_with fail
    refine (RCheckBook_any w1 b p cap hs ((HHB.out.diff hP1.out (Nat.le_refl _) (fun _ _ => id)).mono hP1.out.size)).mono ?_
    rintro e w2 ⟨rfl, hp2⟩
    go_wp2_with fail
    exact bodyPost_ret (v := .tuple #[.int .i64 0, .int .i64 (checkB b)]) (by simp [results, Tryd.results40, go_sem]) rfl ⟨by unfold roundC; rw [if_pos hck], hP1.out.trans hp2⟩
end Go.Proofs.YtmedkmbfggphdaaDoor

namespace Go.Proofs.YtmedkmbfggphdaaDoor
open Go.RowKit

/-- A slice at q holds xs. -/
def RowL (w : World) (q : Option Addr) (xs : List Int) : Prop := Row w.heap.size w q xs.length fun k => .int .i64 (nthI xs k)
theorem RowL.pure {w w' : World} {q : Option Addr} {xs : List Int} (h : RowL w q xs) (hp : Pure w w') : RowL w' q xs := (Row.diff h hp (Nat.le_refl _) (fun _ _ => id)).mono hp.size
theorem RowL.lit {w : World} {g : Nat} {T : TypeId} {xs : List Int} (h : w.heap[g]? = some (.cells (vals xs).toArray T (0, 0))) : RowL w (some ⟨g, 0, none⟩) xs := fun k hk => by
  refine ⟨g, 0, rfl, (Array.getElem?_eq_some_iff.1 h).1, ?_⟩
  rw [cell_of_row w _ _ _ _ _ h]
  simp [vals, nthI, hk]
theorem RowL.new (w : World) (T : TypeId) (xs : List Int) : RowL (w.alloc (.cells (vals xs).toArray T)) (some ⟨w.heap.size, 0, none⟩) xs := RowL.lit (World.alloc_heap_new w _)
theorem RowL.sl {w : World} {q : Option Addr} {xs : List Int} (h : RowL w q xs) (hx : 1 ≤ xs.length) (c : Nat) : SlI w.heap.size w (.slice q xs.length c) xs := by
  obtain ⟨b, o, rfl, hb, -⟩ := h 0 hx
  refine .inr ⟨b, o, c, rfl, hb, fun k u hu => ?_⟩
  have hk : k < xs.length := (List.getElem?_eq_some_iff.1 hu).1
  obtain ⟨b', o', he, _, hc⟩ := h k hk
  cases he
  rw [hc]
  simp [nthI, hu]
theorem RowL.own {w : World} {B : Nat} {v : Value} {xs : List Int} (h : w.ownsRow B 3 1 v xs.length (vals xs)) : ∃ q c, v = .slice q xs.length c ∧ RowL w q xs := by
  obtain ⟨h1, ⟨rfl, h0⟩ | ⟨g, c, cur, rfl, h2, h3, h4⟩⟩ := h
  · exact ⟨none, 0, by rw [h0], fun j hj => by omega⟩
  · have h := World.ownsRow.cellAt (w := w) (base := B) (e := 3) (size := 1) (g := g) (n := xs.length) (cap := c) (xs := vals xs) ⟨h1, .inr ⟨g, c, cur, rfl, h2, h3, h4⟩⟩
    refine ⟨_, c, rfl, fun k hk => ⟨g, 0, rfl, (Array.getElem?_eq_some_iff.1 h3).1, ?_⟩⟩
    rw [Nat.zero_add, h k (by omega)]
    simp [vals, nthI, hk]

/-- The boxes of both books, and the books. -/
structure WI (gA gB : Nat) (pA pB : Option Addr) (cA cB : Nat) (w : World) : Prop where
  bA : BoxB gA bkA pA cA w
  bB : BoxB gB bkB pB cB w
  kA : BookAt w.heap.size w pA bkA
  kB : BookAt w.heap.size w pB bkB
  gl : Gl w
theorem WI.pure {gA gB : Nat} {pA pB : Option Addr} {cA cB : Nat} {w w' : World} (h : WI gA gB pA pB cA cB w) (hp : Pure w w') : WI gA gB pA pB cA cB w' :=
  ⟨h.bA.pure hp, h.bB.pure hp, (h.kA.diff hp (Nat.le_refl _) (fun _ _ => id)).mono hp.size, (h.kB.diff hp (Nat.le_refl _) (fun _ _ => id)).mono hp.size, h.gl.diff hp (fun _ _ => id)⟩

section
variable {gA gB : Nat} {pA pB : Option Addr} {cA cB : Nat} {w : World}
theorem ctA (h : WI gA gB pA pB cA cB w) {q r : Option Addr} {xs ys : List Int} (c d : Nat) (hx : RowL w q xs) (hy : RowL w r ys) (h1 : 1 ≤ xs.length) (h2 : 1 ≤ ys.length) {z : Int} (hz : truthC bkA xs ys = z) :
    Calls Tryd.prog 25 #[bookV bkA pA cA, .slice q xs.length c, .slice r ys.length d] w fun e w' => e = .returned (.int .i64 z) ∧ Pure w w' := by
  subst hz
  exact CheckTruth_any w bkA pA cA _ _ xs ys smallA h.kA h.gl (hx.sl h1 c) (hy.sl h2 d)
theorem ctB (h : WI gA gB pA pB cA cB w) {q r : Option Addr} {xs ys : List Int} (c d : Nat) (hx : RowL w q xs) (hy : RowL w r ys) (h1 : 1 ≤ xs.length) (h2 : 1 ≤ ys.length) {z : Int} (hz : truthC bkB xs ys = z) :
    Calls Tryd.prog 25 #[bookV bkB pB cB, .slice q xs.length c, .slice r ys.length d] w fun e w' => e = .returned (.int .i64 z) ∧ Pure w w' := by
  subst hz
  exact CheckTruth_any w bkB pB cB _ _ xs ys smallB h.kB h.gl (hx.sl h1 c) (hy.sl h2 d)
/-- A truth that is answered. -/
def ansT (xs ys : List Int) (w : World) (e : Ending) (w' : World) : Prop :=
  ∃ q r, e = .returned (.tuple #[.slice q xs.length xs.length, .slice r ys.length ys.length, .int .i64 0]) ∧ RowL w' q xs ∧ RowL w' r ys ∧ Pure w w'
theorem RowL.of_is {w : World} {g T : Nat} {xs : List Int} {f : Nat → Value} (h : w.rowIs g T xs.length f) (hf : ∀ i, i < xs.length → f i = .int .i64 (nthI xs i)) : RowL w (some ⟨g, 0, none⟩) xs := fun k hk =>
  ⟨g, 0, rfl, h.lt, by rw [Nat.zero_add, h.cell hk, hf k hk]⟩
theorem ansT_of {b : BK} {pick : Int → Int → Int} {e : Ending} {w' : World} (xs ys : List Int) (hc : checkB b = 0) (hn : noneB b.es = false) (hl : b.lots = 2) (ht : b.total = 3) (hx : xs.length = 2) (hy : ys.length = 3) (h : truthQ b pick w e w' ∧ Pure w w') (h1 : ∀ i, i < 2 → pickT b.T pick (1 + i) = nthI xs i) (h2 : ∀ i, i < 3 → pickT b.T pick (3 + i) = nthI ys i) : ansT xs ys w e w' := by
  unfold truthQ at h
  rw [if_neg (by rw [hc]; simp), if_neg (by rw [hn]; simp)] at h
  obtain ⟨⟨g1, g2, L, hL, -, -, rfl, r1, r2⟩, hp⟩ := h
  obtain rfl : L = 2 := by omega
  rw [ht] at r2 ⊢
  refine ⟨some ⟨g1, 0, none⟩, some ⟨g2, 0, none⟩, by rw [hx, hy], RowL.of_is (T := 2) (by rw [hx]; exact r1) (fun i hi => by rw [h1 i (by omega)]), RowL.of_is (T := 2) (by rw [hy]; exact r2) (fun i hi => ?_), hp⟩
  rw [show 1 + 2 + i = 3 + i by omega, h2 i (by omega)]
theorem T_at {b : BK} {n m : Nat} {v : Int} (h : (b.T m).by' = v) (e : n = m) : (b.T n).by' = v := by rw [e]; exact h
theorem pickLo_at {b : BK} {n m : Nat} {v z : Int} (h : (b.T m).by' = v) (e : n * 19 = m) (hz : -v = z) : pickT b.T pickLo n = z := by unfold pickT pickLo; rw [e, h]; exact hz
theorem pickHi_at {b : BK} {n m : Nat} {v z : Int} (h : (b.T m).by' = v) (e : n = m) (hz : v = z) : pickT b.T pickHi n = z := by unfold pickT pickHi; rw [e, h]; exact hz
theorem lt2 {p : Nat → Prop} (h0 : p 0) (h1 : p 1) : ∀ i, i < 2 → p i := fun i hi => by
  match i, hi with
  | 0, _ => exact h0
  | 1, _ => exact h1
theorem lt3 {p : Nat → Prop} (h0 : p 0) (h1 : p 1) (h2 : p 2) : ∀ i, i < 3 → p i := fun i hi => by
  match i, hi with
  | 0, _ => exact h0
  | 1, _ => exact h1
  | 2, _ => exact h2
theorem leastA (h : WI gA gB pA pB cA cB w) : Calls Tryd.prog 29 #[bookV bkA pA cA] w fun e w' => ansT [50, 41] [0, 1, 3] w e w' :=
  (Least_any w bkA pA cA smallA h.kA h.gl).mono fun e w' h => ansT_of (pick := pickLo) [50, 41] [0, 1, 3] checkA noneA rfl (by decide) rfl rfl h
    (lt2 (p := fun i => pickT bkA.T pickLo (1 + i) = nthI [50, 41] i) (pickLo_at tA10 (by decide) (by decide)) (pickLo_at tA20 (by decide) (by decide)))
    (lt3 (p := fun i => pickT bkA.T pickLo (3 + i) = nthI [0, 1, 3] i) (pickLo_at tA30 (by decide) (by decide)) (pickLo_at tA40 (by decide) (by decide)) (pickLo_at tA50 (by decide) (by decide)))
theorem greatA (h : WI gA gB pA pB cA cB w) : Calls Tryd.prog 31 #[bookV bkA pA cA] w fun e w' => ansT [52, 44] [0, 3, 6] w e w' :=
  (Greatest_any w bkA pA cA smallA h.kA h.gl).mono fun e w' h => ansT_of (pick := pickHi) [52, 44] [0, 3, 6] checkA noneA rfl (by decide) rfl rfl h
    (lt2 (p := fun i => pickT bkA.T pickHi (1 + i) = nthI [52, 44] i) (pickHi_at tA01 (by decide) (by decide)) (pickHi_at tA02 (by decide) (by decide)))
    (lt3 (p := fun i => pickT bkA.T pickHi (3 + i) = nthI [0, 3, 6] i) (pickHi_at tA03 (by decide) (by decide)) (pickHi_at tA04 (by decide) (by decide)) (pickHi_at tA05 (by decide) (by decide)))
theorem apQ_at {b : BK} {E : Int} {x y n m : Nat} {u v z : Int} (hE : E = 0) (hn : noneB b.es = false) (h1 : (b.T n).by' = u) (e1 : x * 19 + y = n) (h2 : (b.T m).by' = v) (e2 : y * 19 + x = m) (hz : -u = z) :
    apQ b E x y = .tuple #[.agg #[.int .i64 z, .int .i64 v], .int .i64 0] := by
  subst hE
  subst hz
  unfold apQ apLo apHi apE
  rw [if_neg (by simp), hn, e1, e2, h1, h2]
  rfl
theorem apQ_bad {b : BK} {E z : Int} {x y : Nat} (hE : E = z) (h : z ≠ 0) : apQ b E x y = .tuple #[.agg #[.int .i64 0, .int .i64 0], .int .i64 z] := by
  subst hE
  unfold apQ
  rw [if_pos h]
theorem greatB (h : WI gA gB pA pB cA cB w) : Calls Tryd.prog 31 #[bookV bkB pB cB] w fun e w' => e = .returned (.tuple #[.slice none 0 0, .slice none 0 0, .int .i64 17]) ∧ Pure w w' :=
  (Greatest_any w bkB pB cB smallB h.kB h.gl).mono fun e w' h => by
    unfold truthQ at h
    rw [if_neg (by rw [checkBB]; simp), if_pos noneBB] at h
    exact h
theorem spanA1 (h : WI gA gB pA pB cA cB w) : Calls Tryd.prog 34 #[bookV bkA pA cA, .int .i64 1] w fun e w' => e = .returned (.tuple #[.agg #[.int .i64 41, .int .i64 44], .int .i64 0]) ∧ Pure w w' :=
  (Span_any w bkA pA cA 1 smallA h.kA h.gl).mono fun e w' h => ⟨h.1.trans (congrArg Ending.returned (apQ_at (by decide) noneA tA20 (by decide) tA02 (by decide) (by decide))), h.2⟩
theorem spanA2 (h : WI gA gB pA pB cA cB w) : Calls Tryd.prog 34 #[bookV bkA pA cA, .int .i64 2] w fun e w' => e = .returned (.tuple #[.agg #[.int .i64 0, .int .i64 0], .int .i64 2]) ∧ Pure w w' :=
  (Span_any w bkA pA cA 2 smallA h.kA h.gl).mono fun e w' h => ⟨h.1.trans (congrArg Ending.returned (apQ_bad (by decide) (by decide))), h.2⟩
theorem apartA (h : WI gA gB pA pB cA cB w) : Calls Tryd.prog 36 #[bookV bkA pA cA, .int .i64 0, .int .i64 1] w fun e w' => e = .returned (.tuple #[.agg #[.int .i64 6, .int .i64 10], .int .i64 0]) ∧ Pure w w' :=
  (Apart_any w bkA pA cA 0 1 smallA h.kA h.gl).mono fun e w' h => ⟨h.1.trans (congrArg Ending.returned (apQ_at (by decide) noneA tA12 (by decide) tA21 (by decide) (by decide))), h.2⟩
theorem crA (h : WI gA gB pA pB cA cB w) {q : Option Addr} {xs : List Int} (c : Nat) (hn : xs.length ≤ 1000) (hx : RowL w q xs) {z : Int × Int} (hz : roundC bkA (nthI xs) xs.length = z) :
    Calls Tryd.prog 39 #[bookV bkA pA cA, .slice q xs.length c] w fun e w' => e = .returned (.tuple #[.int .i64 z.1, .int .i64 z.2]) ∧ Pure w w' := by
  subst hz
  exact CheckRound_any w bkA pA q cA _ c (nthI xs) smallA h.kA h.gl hn hx
theorem crB (h : WI gA gB pA pB cA cB w) {q : Option Addr} {xs : List Int} (c : Nat) (hn : xs.length ≤ 1000) (hx : RowL w q xs) {z : Int × Int} (hz : roundC bkB (nthI xs) xs.length = z) :
    Calls Tryd.prog 39 #[bookV bkB pB cB, .slice q xs.length c] w fun e w' => e = .returned (.tuple #[.int .i64 z.1, .int .i64 z.2]) ∧ Pure w w' := by
  subst hz
  exact CheckRound_any w bkB pB q cB _ c (nthI xs) smallB h.kB h.gl hn hx
theorem rndA (h : WI gA gB pA pB cA cB w) : Calls Tryd.prog 41 #[bookV bkA pA cA] w fun e w' => e = .returned (.tuple #[.slice none 0 0, .int .i64 5]) ∧ Pure w w' :=
  (Round_any w bkA pA cA smallA h.kA h.gl).mono fun e w' h => by
    unfold roundQ at h
    rw [if_neg (by rw [checkA]; simp), if_pos noneA] at h
    exact h
theorem rndB (h : WI gA gB pA pB cA cB w) : Calls Tryd.prog 41 #[bookV bkB pB cB] w fun e w' => ∃ (r : List Int) (m : Int) (q : Option Addr) (c : Nat), 0 < m ∧ r.length ≤ 1000 ∧ roundC bkB (nthI r) r.length = (m, 0) ∧ e = .returned (.tuple #[.slice q r.length c, .int .i64 0]) ∧ RowL w' q r ∧ Pure w w' :=
  (Round_any w bkB pB cB smallB h.kB h.gl).mono fun e w' h => by
    unfold roundQ at h
    rw [if_neg (by rw [checkBB]; simp), if_neg (by rw [noneBB]; simp)] at h
    obtain ⟨⟨v, r, hr, hl, rfl, ho⟩, hp⟩ := h
    obtain ⟨m, hm, he⟩ := rd_ok checkBB hr
    obtain ⟨q, c, rfl, hR⟩ := RowL.own ho
    exact ⟨r, m, q, c, hm, by omega, he, rfl, hR, hp⟩
theorem wr_of {b : BK} {xs : List Int} {L n : Nat} {e : Ending} {w' : World} (hc : checkB b = 0) (hL : b.lots = (L : Nat)) (hn : b.total = n) (hw : wrongTo b L n = xs)
    (h : (if checkB b ≠ 0 then e = .returned (.tuple #[.slice none 0 0, .int .i64 (checkB b)]) else
      ∃ u L, b.lots = (L : Nat) ∧ e = .returned (.tuple #[u, .int .i64 0]) ∧ w'.ownsRow w.heap.size 3 1 u (wrongTo b L b.total).length (vals (wrongTo b L b.total))) ∧ Pure w w') :
    ∃ (q : Option Addr) (c : Nat), e = .returned (.tuple #[.slice q xs.length c, .int .i64 0]) ∧ RowL w' q xs ∧ Pure w w' := by
  rw [if_neg (by rw [hc]; simp)] at h
  obtain ⟨⟨u, L', hL', rfl, ho⟩, hp⟩ := h
  obtain rfl : L' = L := by omega
  rw [hn, hw] at ho
  obtain ⟨q, c, rfl, hR⟩ := RowL.own ho
  exact ⟨q, c, rfl, hR, hp⟩
theorem wrB (h : WI gA gB pA pB cA cB w) : Calls Tryd.prog 44 #[bookV bkB pB cB] w fun e w' => ∃ (q : Option Addr) (c : Nat), e = .returned (.tuple #[.slice q 2 c, .int .i64 0]) ∧ RowL w' q [0, 1] ∧ Pure w w' :=
  (Wrong_any w bkB pB cB smallB h.kB h.gl).mono fun e w' h => wr_of (xs := [0, 1]) (L := 1) (n := 2) checkBB rfl (by decide) wrongB h
theorem rrB (h : WI gA gB pA pB cA cB w) {q : Option Addr} {r : List Int} (c : Nat) {m : Int} (hl : r.length ≤ 1000) (hr : roundC bkB (nthI r) r.length = (m, 0)) (hx : RowL w q r) :
    Calls Tryd.prog 40 #[bookV bkB pB cB, .slice q r.length c] w fun e w' => e = .returned (.tuple #[.int .i64 m, .int .i64 0]) ∧ Pure w w' :=
  (RCheckRound_any w bkB pB q cB _ c (nthI r) smallB h.kB hl hx).mono fun e w' h => by rw [hr] at h; exact h
theorem LongsL {q r : Option Addr} {xs : List Int} {n : Nat} (c d : Nat) (hn : xs.length = n) (hl : n ≤ 1000) (hx : RowL w q xs) (hy : RowL w r xs) :
    Calls Tryd.prog 33 #[.slice q n c, .slice r n d] w fun e w' => e = .returned (.bool true) ∧ Pure w w' := by
  subst hn
  refine (Longs_any w q r _ _ c d _ _ hl hl hx hy).mono fun e w' h => ⟨h.1.trans ?_, h.2⟩
  simp [eqTo]
theorem IntsL {q r : Option Addr} {xs : List Int} {n : Nat} (c d : Nat) (hn : xs.length = n) (hl : n ≤ 1000) (hx : RowL w q xs) (hy : RowL w r xs) :
    Calls Tryd.prog 46 #[.slice q n c, .slice r n d] w fun e w' => e = .returned (.bool true) ∧ Pure w w' := by
  subst hn
  refine (Ints_any w q r _ _ c d _ _ hl hl hx hy).mono fun e w' h => ⟨h.1.trans ?_, h.2⟩
  simp [eqTo]
end
end Go.Proofs.YtmedkmbfggphdaaDoor

namespace Go.Proofs.YtmedkmbfggphdaaDoor
open Go.RowKit

theorem rdB5 : roundC bkB (nthI [1, 3]) 2 = (0, 14) := by decide
theorem rdB6 : roundC bkB (nthI [2, 0]) 2 = (0, 14) := by decide
theorem rdB7 : roundC bkB (nthI [4]) 1 = (0, 2) := by decide
theorem rdA2 : roundC bkA (nthI [1, 3, 4, 5]) 4 = (0, 14) := by decide
section
variable {gA gB : Nat} {pA pB : Option Addr} {cA cB : Nat} {w : World}
theorem spanA0 (h : WI gA gB pA pB cA cB w) : Calls Tryd.prog 34 #[bookV bkA pA cA, .int .i64 0] w fun e w' => e = .returned (.tuple #[.agg #[.int .i64 50, .int .i64 52], .int .i64 0]) ∧ Pure w w' :=
  (Span_any w bkA pA cA 0 smallA h.kA h.gl).mono fun e w' h => ⟨h.1.trans (congrArg Ending.returned (apQ_at (by decide) noneA tA10 (by decide) tA01 (by decide) (by decide))), h.2⟩
theorem apartA10 (h : WI gA gB pA pB cA cB w) : Calls Tryd.prog 36 #[bookV bkA pA cA, .int .i64 1, .int .i64 0] w fun e w' => e = .returned (.tuple #[.agg #[.int .i64 (-10), .int .i64 (-6)], .int .i64 0]) ∧ Pure w w' :=
  (Apart_any w bkA pA cA 1 0 smallA h.kA h.gl).mono fun e w' h => ⟨h.1.trans (congrArg Ending.returned (apQ_at (by decide) noneA tA21 (by decide) tA12 (by decide) (by decide))), h.2⟩
theorem apartA11 (h : WI gA gB pA pB cA cB w) : Calls Tryd.prog 36 #[bookV bkA pA cA, .int .i64 1, .int .i64 1] w fun e w' => e = .returned (.tuple #[.agg #[.int .i64 0, .int .i64 0], .int .i64 0]) ∧ Pure w w' :=
  (Apart_any w bkA pA cA 1 1 smallA h.kA h.gl).mono fun e w' h => ⟨h.1.trans (congrArg Ending.returned (apQ_at (by decide) noneA tA22 (by decide) tA22 (by decide) (by decide))), h.2⟩
theorem wrA (h : WI gA gB pA pB cA cB w) : Calls Tryd.prog 44 #[bookV bkA pA cA] w fun e w' => ∃ (q : Option Addr) (c : Nat), e = .returned (.tuple #[.slice q 3 c, .int .i64 0]) ∧ RowL w' q [0, 1, 2] ∧ Pure w w' :=
  (Wrong_any w bkA pA cA smallA h.kA h.gl).mono fun e w' h => wr_of (xs := [0, 1, 2]) (L := 2) (n := 3) checkA rfl (by decide) wrongA h
theorem cbB (h : WI gA gB pA pB cA cB w) : Calls Tryd.prog 23 #[bookV bkB pB cB] w fun e w' => e = .returned (.int .i64 0) ∧ Pure w w' :=
  (CheckBook_any w bkB pB cB smallB h.kB h.gl).mono fun e w' h => ⟨by rw [← checkBB]; exact h.1, h.2⟩
end
end Go.Proofs.YtmedkmbfggphdaaDoor
