/- The iterator of steps. The walks of joins and proof. The walk of proof. The walks of slices.Index and of taken. -/
import Derived.Test.YtmedkmbfggphdaaDoorM09
import Derived.Test.YtmedkmbfggphdaaDoorM05
import Derived.Test.YtmedkmbfggphdaaDoorT2
import Derived.Test.YtmedkmbfggphdaaDoorM08
set_option linter.unusedSimpArgs false
set_option linter.unusedVariables false
set_option linter.constructorNameAsVariable false
namespace Go.Proofs.YtmedkmbfggphdaaDoor
open Go.RowKit Go.Shelf
attribute [local go_sem] Oper.semAt_some

/-- Between two rounds. -/
def SC (R : Nat → Prop) (W : World) (J : (Nat → Prop) → World → Prop) (wr : World) : Prop := J (fun _ => False) wr ∧ Diff (fun x => ¬ R x) W wr
theorem SC.pure {R : Nat → Prop} {W w w' : World} {J : (Nat → Prop) → World → Prop} (h : SC R W J w) (hJ : Stable J) (hp : Pure w w') : SC R W J w' :=
  ⟨hJ _ _ _ _ h.1 (hp.mono (fun _ _ h => h.elim)) (fun _ h => .inl h), h.2.trans (hp.mono (fun _ _ h => h.elim))⟩
theorem SC.round {R : Nat → Prop} {W w w' : World} {J J' : (Nat → Prop) → World → Prop} (h : SC R W J w) (hd : Diff (fun k => ¬ R k ∧ ¬ False) w w') (hj : J' (fun _ => False) w') : SC R W J' w' :=
  ⟨hj, h.2.trans (hd.mono (fun k _ h => h.1))⟩

set_option maxHeartbeats 4000000 in
theorem steps_iter (W0 : World) (gb qb qo n c B : Nat) (f : Nat → Int) (hn1 : 1 ≤ n) (hn : n ≤ 1000) (hbox : W0.heap[gb]? = some (.cells #[.slice (some ⟨qb, qo, none⟩) n c] 44 (0, 0))) (hgb : gb < W0.heap.size) (hB : B ≤ W0.heap.size) (hqb : qb < B)
    (hrow : ∀ k, k < n → W0.cell? ⟨qb, qo + k, none⟩ = some (.int .i64 (f k))) :
    Iter Tryd.prog 104 (fun y => #[y, .pointer (some ⟨gb, 0, none⟩)]) n (fun i => #[.agg #[.int .i64 (f i), .int .i64 (f ((i + 1) % n))]]) (fun k => k = gb ∨ k < B) W0 := by
  intro l J Jx W hR hD hJ hJx hY h0
  have hro : Fence.wide.round = none := rfl
  have hmx : Tryd.prog.follows .mixedOrders = true := by kernel_rfl
  have hsz0 := hD.size
  have hBW : B ≤ W.heap.size := Nat.le_trans hB hD.size
  have hboxW : W.heap[gb]? = some (.cells #[.slice (some ⟨qb, qo, none⟩) n c] 44 (0, 0)) := (hD.block _ hgb (fun h => h (.inl rfl))).trans hbox
  have hrowW : Hid (∀ wr, Diff (fun x => ¬ (x = gb ∨ x < B)) W wr → ∀ k, k < n → wr.cell? ⟨qb, qo + k, none⟩ = some (.int .i64 (f k))) := fun wr hd k hk =>
    (hd.cell (p := ⟨qb, qo + k, none⟩) (by show qb < _; omega) (fun h => h (.inr hqb))).trans ((hD.cell (p := ⟨qb, qo + k, none⟩) (by show qb < _; omega) (fun h => h (.inr hqb))).trans (hrow k hk))
  have hbx : Hid (∀ wr, Diff (fun x => ¬ (x = gb ∨ x < B)) W wr → wr.cell? ⟨gb, 0, none⟩ = some (.slice (some ⟨qb, qo, none⟩) n c)) := fun wr hd => by
    rw [cell_of_row wr gb 0 _ _ _ ((hd.block _ (Nat.lt_of_lt_of_le hgb hsz0) (fun h => h (.inl rfl))).trans hboxW)]; rfl
  have z0 := hbx.out W (Diff.refl _)
  have hgW : gb < W.heap.size := by omega
  refine callsIn_of_wp Tryd.func104 rfl trivial ?_ hro
  simp only [Tryd.ntmps104, List.size_toArray, List.length_cons, List.length_nil, Nat.reduceAdd, Nat.reduceSub, Array.replicate_succ, Array.replicate_zero, List.push_toArray, List.append_toArray, List.nil_append, List.cons_append]
  obtain ⟨R, hR'⟩ : ∃ R : Nat → Prop, (fun k => k = gb ∨ k < B) = R := ⟨_, rfl⟩
  have hrowW' : Hid (∀ wr, Diff (fun x => ¬ R x) W wr → ∀ k, k < n → wr.cell? ⟨qb, qo + k, none⟩ = some (.int .i64 (f k))) := by rw [← hR']; exact hrowW.out
  have hbx' : Hid (∀ wr, Diff (fun x => ¬ R x) W wr → wr.cell? ⟨gb, 0, none⟩ = some (.slice (some ⟨qb, qo, none⟩) n c)) := by rw [← hR']; exact hbx.out
  have hY' := hY
  simp only [show ∀ k, (k = gb ∨ k < B) = R k from fun k => congrFun hR' k] at hY'
  clear hY hrowW hbx hbox hrow hboxW hD hR
  gi_wp2
  gi_loopw [3, 4, 7] (fun _ _ i wr => ∃ k : Nat, k ≤ n ∧ i = .int .i64 k ∧ SC R W (J k) wr) (fun _ _ i _ => n - (intOf i).toNat)
  case atStart => exact ⟨0, Nat.zero_le _, rfl, h0, Diff.refl _⟩
  case round =>
    obtain ⟨k, hk, rfl, hsc⟩ := hrel
    by_cases hlt : k < n
    · have zk := hrowW'.out wr hsc.2 k hlt
      obtain ⟨M, hM⟩ : ∃ M, (k + 1) % n = M := ⟨_, rfl⟩
      have hMn : M < n := by rw [← hM]; exact Nat.mod_lt _ (by omega)
      have HSC := Lib.hid hsc
      clear hsc z0 h0
      gi_wp2
      refine reg_inv (fun d a W2 => ∃ r : Bool, a = { tmps := #[Value.func (Fn.yield l) #[] #[], Value.pointer (some { block := gb, off := 0 }), undef, Value.int IntKind.i64 ↑k, Value.int IntKind.i64 (f k), Value.slice (some { block := qb, off := qo }) n c, Value.int IntKind.i64 ↑n, Value.int IntKind.i64 ↑k, Value.bool true, Value.int IntKind.i64 ↑k, Value.pointer (some { block := qb, off := qo + k }), Value.int IntKind.i64 (f k), (bif d 0 then Value.func (Fn.yield l) #[] #[] else u12), (bif d 1 then Value.int IntKind.i64 (f k) else u13), (bif d 2 then Value.slice (some { block := qb, off := qo }) n c else u14), (bif d 3 then Value.int IntKind.i64 ↑k else u15), (bif d 4 then Value.int IntKind.i64 (↑k + 1) else u16), (bif d 5 then Value.slice (some { block := qb, off := qo }) n c else u17), (bif d 6 then Value.int IntKind.i64 ↑n else u18), (bif d 7 then Value.int IntKind.i64 ↑M else u19), (bif d 8 then Value.pointer (some { block := qb, off := qo + M }) else u20), (bif d 9 then Value.int IntKind.i64 (f M) else u21), (bif d 10 then Value.agg #[Value.int IntKind.i64 (f k), Value.int IntKind.i64 (f M)] else u22), (bif d 11 then Value.bool r else u23), (bif d 12 then Value.bool !r else u24), u25], defers := [] } ∧ (d 11 = false → SC R W (J k) W2) ∧ (d 11 = true → if r = true then SC R W (J (k + 1)) W2 else SC R W Jx W2)) hmx (by kernel_rfl) ?_ ?_ ?_
      · exact ⟨true, rfl, fun _ => HSC.out.pure (hJ k) (Diff.refl _).drew, fun h => by cases h⟩
      · refine ⟨?_, ?_, ?_, ?_, ?_, ?_, ?_, ?_, ?_, ?_, ?_, ?_, ?_, trivial⟩
        · rintro d a W2 hdi hdep hcl ⟨r, rfl, hw⟩ K hK
          replace hdi : d 0 = false := hdi
          have f11 : d 11 = false := hcl.neg hdi 11 (by kernel_rfl)
          have f12 : d 12 = false := hcl.neg hdi 12 (by kernel_rfl)
          clear hdep hcl
          go_simp
          exact hK _ _ ⟨r, by simp [upd, hdi, f11, f12], by simpa [upd] using hw⟩
        · rintro d a W2 hdi hdep hcl ⟨r, rfl, hw⟩ K hK
          replace hdi : d 1 = false := hdi
          have f10 : d 10 = false := hcl.neg hdi 10 (by kernel_rfl)
          have f11 : d 11 = false := hcl.neg hdi 11 (by kernel_rfl)
          have f12 : d 12 = false := hcl.neg hdi 12 (by kernel_rfl)
          clear hdep hcl
          go_simp
          exact hK _ _ ⟨r, by simp [upd, hdi, f10, f11, f12], by simpa [upd] using hw⟩
        · rintro d a W2 hdi hdep hcl ⟨r, rfl, hw⟩ K hK
          replace hdi : d 2 = false := hdi
          have f8 : d 8 = false := hcl.neg hdi 8 (by kernel_rfl)
          have f9 : d 9 = false := hcl.neg hdi 9 (by kernel_rfl)
          have f10 : d 10 = false := hcl.neg hdi 10 (by kernel_rfl)
          have f11 : d 11 = false := hcl.neg hdi 11 (by kernel_rfl)
          have f12 : d 12 = false := hcl.neg hdi 12 (by kernel_rfl)
          clear hdep hcl
          have z0 := hbx'.out W2 (hw.1 f11).2
          have hsz := (hw.1 f11).2.size
          go_simp
          exact hK _ _ ⟨r, by simp [upd, hdi, f8, f9, f10, f11, f12], by simpa [upd] using hw⟩
        · rintro d a W2 hdi hdep hcl ⟨r, rfl, hw⟩ K hK
          replace hdi : d 3 = false := hdi
          have f4 : d 4 = false := hcl.neg hdi 4 (by kernel_rfl)
          have f7 : d 7 = false := hcl.neg hdi 7 (by kernel_rfl)
          have f8 : d 8 = false := hcl.neg hdi 8 (by kernel_rfl)
          have f9 : d 9 = false := hcl.neg hdi 9 (by kernel_rfl)
          have f10 : d 10 = false := hcl.neg hdi 10 (by kernel_rfl)
          have f11 : d 11 = false := hcl.neg hdi 11 (by kernel_rfl)
          have f12 : d 12 = false := hcl.neg hdi 12 (by kernel_rfl)
          clear hdep hcl
          go_simp
          exact hK _ _ ⟨r, by simp [upd, hdi, f4, f7, f8, f9, f10, f11, f12], by simpa [upd] using hw⟩
        · rintro d a W2 hdi hdep hcl ⟨r, rfl, hw⟩ K hK
          replace hdi : d 4 = false := hdi
          have e3 : d 3 = true := hcl.pos 4 rfl hdep 3 29 (by kernel_rfl)
          have f7 : d 7 = false := hcl.neg hdi 7 (by kernel_rfl)
          have f8 : d 8 = false := hcl.neg hdi 8 (by kernel_rfl)
          have f9 : d 9 = false := hcl.neg hdi 9 (by kernel_rfl)
          have f10 : d 10 = false := hcl.neg hdi 10 (by kernel_rfl)
          have f11 : d 11 = false := hcl.neg hdi 11 (by kernel_rfl)
          have f12 : d 12 = false := hcl.neg hdi 12 (by kernel_rfl)
          clear hdep hcl
          have HWR := Lib.hid (IntWalk.i64_in ((k : Int) + 1) (by omega))
          go_simp
          exact hK _ _ ⟨r, by simp [upd, hdi, e3, f7, f8, f9, f10, f11, f12, HWR.out], by simpa [upd] using hw⟩
        · rintro d a W2 hdi hdep hcl ⟨r, rfl, hw⟩ K hK
          replace hdi : d 5 = false := hdi
          have f6 : d 6 = false := hcl.neg hdi 6 (by kernel_rfl)
          have f7 : d 7 = false := hcl.neg hdi 7 (by kernel_rfl)
          have f8 : d 8 = false := hcl.neg hdi 8 (by kernel_rfl)
          have f9 : d 9 = false := hcl.neg hdi 9 (by kernel_rfl)
          have f10 : d 10 = false := hcl.neg hdi 10 (by kernel_rfl)
          have f11 : d 11 = false := hcl.neg hdi 11 (by kernel_rfl)
          have f12 : d 12 = false := hcl.neg hdi 12 (by kernel_rfl)
          clear hdep hcl
          have z0 := hbx'.out W2 (hw.1 f11).2
          have hsz := (hw.1 f11).2.size
          go_simp
          exact hK _ _ ⟨r, by simp [upd, hdi, f6, f7, f8, f9, f10, f11, f12], by simpa [upd] using hw⟩
        · rintro d a W2 hdi hdep hcl ⟨r, rfl, hw⟩ K hK
          replace hdi : d 6 = false := hdi
          have e5 : d 5 = true := hcl.pos 6 rfl hdep 5 29 (by kernel_rfl)
          have f7 : d 7 = false := hcl.neg hdi 7 (by kernel_rfl)
          have f8 : d 8 = false := hcl.neg hdi 8 (by kernel_rfl)
          have f9 : d 9 = false := hcl.neg hdi 9 (by kernel_rfl)
          have f10 : d 10 = false := hcl.neg hdi 10 (by kernel_rfl)
          have f11 : d 11 = false := hcl.neg hdi 11 (by kernel_rfl)
          have f12 : d 12 = false := hcl.neg hdi 12 (by kernel_rfl)
          clear hdep hcl
          go_simp
          exact hK _ _ ⟨r, by simp [upd, hdi, e5, f7, f8, f9, f10, f11, f12], by simpa [upd] using hw⟩
        · rintro d a W2 hdi hdep hcl ⟨r, rfl, hw⟩ K hK
          replace hdi : d 7 = false := hdi
          have e3 : d 3 = true := hcl.pos 7 rfl hdep 3 29 (by kernel_rfl)
          have e4 : d 4 = true := hcl.pos 7 rfl hdep 4 29 (by kernel_rfl)
          have e5 : d 5 = true := hcl.pos 7 rfl hdep 5 29 (by kernel_rfl)
          have e6 : d 6 = true := hcl.pos 7 rfl hdep 6 29 (by kernel_rfl)
          have f8 : d 8 = false := hcl.neg hdi 8 (by kernel_rfl)
          have f9 : d 9 = false := hcl.neg hdi 9 (by kernel_rfl)
          have f10 : d 10 = false := hcl.neg hdi 10 (by kernel_rfl)
          have f11 : d 11 = false := hcl.neg hdi 11 (by kernel_rfl)
          have f12 : d 12 = false := hcl.neg hdi 12 (by kernel_rfl)
          clear hdep hcl
          have HREM : Int.tmod ((k : Int) + 1) (n : Int) = (M : Int) := by rw [← hM, show (k : Int) + 1 = ((k + 1 : Nat) : Int) by omega]; exact (Int.ofNat_tmod _ _).symm
          go_simp
          rw [if_neg (show ¬ n = 0 by omega)]
          go_simp
          exact hK _ _ ⟨r, by simp [upd, hdi, e3, e4, e5, e6, f8, f9, f10, f11, f12], by simpa [upd] using hw⟩
        · rintro d a W2 hdi hdep hcl ⟨r, rfl, hw⟩ K hK
          replace hdi : d 8 = false := hdi
          have e2 : d 2 = true := hcl.pos 8 rfl hdep 2 29 (by kernel_rfl)
          have e3 : d 3 = true := hcl.pos 8 rfl hdep 3 29 (by kernel_rfl)
          have e4 : d 4 = true := hcl.pos 8 rfl hdep 4 29 (by kernel_rfl)
          have e5 : d 5 = true := hcl.pos 8 rfl hdep 5 29 (by kernel_rfl)
          have e6 : d 6 = true := hcl.pos 8 rfl hdep 6 29 (by kernel_rfl)
          have e7 : d 7 = true := hcl.pos 8 rfl hdep 7 29 (by kernel_rfl)
          have f9 : d 9 = false := hcl.neg hdi 9 (by kernel_rfl)
          have f10 : d 10 = false := hcl.neg hdi 10 (by kernel_rfl)
          have f11 : d 11 = false := hcl.neg hdi 11 (by kernel_rfl)
          have f12 : d 12 = false := hcl.neg hdi 12 (by kernel_rfl)
          clear hdep hcl
          go_simp
          exact hK _ _ ⟨r, by simp [upd, hdi, e2, e3, e4, e5, e6, e7, f9, f10, f11, f12], by simpa [upd] using hw⟩
        · rintro d a W2 hdi hdep hcl ⟨r, rfl, hw⟩ K hK
          replace hdi : d 9 = false := hdi
          have e2 : d 2 = true := hcl.pos 9 rfl hdep 2 29 (by kernel_rfl)
          have e3 : d 3 = true := hcl.pos 9 rfl hdep 3 29 (by kernel_rfl)
          have e4 : d 4 = true := hcl.pos 9 rfl hdep 4 29 (by kernel_rfl)
          have e5 : d 5 = true := hcl.pos 9 rfl hdep 5 29 (by kernel_rfl)
          have e6 : d 6 = true := hcl.pos 9 rfl hdep 6 29 (by kernel_rfl)
          have e7 : d 7 = true := hcl.pos 9 rfl hdep 7 29 (by kernel_rfl)
          have e8 : d 8 = true := hcl.pos 9 rfl hdep 8 29 (by kernel_rfl)
          have f10 : d 10 = false := hcl.neg hdi 10 (by kernel_rfl)
          have f11 : d 11 = false := hcl.neg hdi 11 (by kernel_rfl)
          have f12 : d 12 = false := hcl.neg hdi 12 (by kernel_rfl)
          clear hdep hcl
          have z0 := hrowW'.out W2 (hw.1 f11).2 M hMn
          go_simp
          exact hK _ _ ⟨r, by simp [upd, hdi, e2, e3, e4, e5, e6, e7, e8, f10, f11, f12], by simpa [upd] using hw⟩
        · rintro d a W2 hdi hdep hcl ⟨r, rfl, hw⟩ K hK
          replace hdi : d 10 = false := hdi
          have e1 : d 1 = true := hcl.pos 10 rfl hdep 1 29 (by kernel_rfl)
          have e2 : d 2 = true := hcl.pos 10 rfl hdep 2 29 (by kernel_rfl)
          have e3 : d 3 = true := hcl.pos 10 rfl hdep 3 29 (by kernel_rfl)
          have e4 : d 4 = true := hcl.pos 10 rfl hdep 4 29 (by kernel_rfl)
          have e5 : d 5 = true := hcl.pos 10 rfl hdep 5 29 (by kernel_rfl)
          have e6 : d 6 = true := hcl.pos 10 rfl hdep 6 29 (by kernel_rfl)
          have e7 : d 7 = true := hcl.pos 10 rfl hdep 7 29 (by kernel_rfl)
          have e8 : d 8 = true := hcl.pos 10 rfl hdep 8 29 (by kernel_rfl)
          have e9 : d 9 = true := hcl.pos 10 rfl hdep 9 29 (by kernel_rfl)
          have f11 : d 11 = false := hcl.neg hdi 11 (by kernel_rfl)
          have f12 : d 12 = false := hcl.neg hdi 12 (by kernel_rfl)
          clear hdep hcl
          go_simp
          exact hK _ _ ⟨r, by simp [upd, hdi, e1, e2, e3, e4, e5, e6, e7, e8, e9, f11, f12], by simpa [upd] using hw⟩
        · rintro d a W2 hdi hdep hcl ⟨r, rfl, hw⟩ K hK
          replace hdi : d 11 = false := hdi
          have e0 : d 0 = true := hcl.pos 11 rfl hdep 0 29 (by kernel_rfl)
          have e1 : d 1 = true := hcl.pos 11 rfl hdep 1 29 (by kernel_rfl)
          have e2 : d 2 = true := hcl.pos 11 rfl hdep 2 29 (by kernel_rfl)
          have e3 : d 3 = true := hcl.pos 11 rfl hdep 3 29 (by kernel_rfl)
          have e4 : d 4 = true := hcl.pos 11 rfl hdep 4 29 (by kernel_rfl)
          have e5 : d 5 = true := hcl.pos 11 rfl hdep 5 29 (by kernel_rfl)
          have e6 : d 6 = true := hcl.pos 11 rfl hdep 6 29 (by kernel_rfl)
          have e7 : d 7 = true := hcl.pos 11 rfl hdep 7 29 (by kernel_rfl)
          have e8 : d 8 = true := hcl.pos 11 rfl hdep 8 29 (by kernel_rfl)
          have e9 : d 9 = true := hcl.pos 11 rfl hdep 9 29 (by kernel_rfl)
          have e10 : d 10 = true := hcl.pos 11 rfl hdep 10 29 (by kernel_rfl)
          have f12 : d 12 = false := hcl.neg hdi 12 (by kernel_rfl)
          clear hdep hcl
          have hsc := hw.1 hdi
          obtain ⟨fn, tmps, assign, body, hy, hRd⟩ := hY' k (fun _ => False) W2 hlt hsc.1 (fun _ h => h.elim) hsc.2.size
          rw [hM] at hy
          go_simp
          refine ⟨rfl, RoundIn.mono hRd ?_⟩
          rintro e W3 ⟨hdf, (⟨rfl, hj⟩ | ⟨rfl, hj⟩)⟩
          · exact hK _ _ ⟨true, by simp [upd, hdi, e0, e1, e2, e3, e4, e5, e6, e7, e8, e9, e10, f12], by simp [upd], fun _ => hsc.round hdf hj⟩
          · exact hK _ _ ⟨false, by simp [upd, hdi, e0, e1, e2, e3, e4, e5, e6, e7, e8, e9, e10, f12], by simp [upd], fun _ => hsc.round hdf hj⟩
        · rintro d a W2 hdi hdep hcl ⟨r, rfl, hw⟩ K hK
          replace hdi : d 12 = false := hdi
          have e0 : d 0 = true := hcl.pos 12 rfl hdep 0 29 (by kernel_rfl)
          have e1 : d 1 = true := hcl.pos 12 rfl hdep 1 29 (by kernel_rfl)
          have e2 : d 2 = true := hcl.pos 12 rfl hdep 2 29 (by kernel_rfl)
          have e3 : d 3 = true := hcl.pos 12 rfl hdep 3 29 (by kernel_rfl)
          have e4 : d 4 = true := hcl.pos 12 rfl hdep 4 29 (by kernel_rfl)
          have e5 : d 5 = true := hcl.pos 12 rfl hdep 5 29 (by kernel_rfl)
          have e6 : d 6 = true := hcl.pos 12 rfl hdep 6 29 (by kernel_rfl)
          have e7 : d 7 = true := hcl.pos 12 rfl hdep 7 29 (by kernel_rfl)
          have e8 : d 8 = true := hcl.pos 12 rfl hdep 8 29 (by kernel_rfl)
          have e9 : d 9 = true := hcl.pos 12 rfl hdep 9 29 (by kernel_rfl)
          have e10 : d 10 = true := hcl.pos 12 rfl hdep 10 29 (by kernel_rfl)
          have e11 : d 11 = true := hcl.pos 12 rfl hdep 11 29 (by kernel_rfl)
          clear hdep hcl
          go_simp
          exact hK _ _ ⟨r, by simp [upd, hdi, e0, e1, e2, e3, e4, e5, e6, e7, e8, e9, e10, e11], by simpa [upd] using hw⟩
      · rintro d a W2 hall ⟨r, rfl, hw⟩
        simp [List.range_succ] at hall
        obtain ⟨e0, e1, e2, e3, e4, e5, e6, e7, e8, e9, e10, e11, e12⟩ := hall
        simp only [e0, e1, e2, e3, e4, e5, e6, e7, e8, e9, e10, e11, e12, cond_true] at hw ⊢
        clear e0 e1 e2 e3 e4 e5 e6 e7 e8 e9 e10 e11 e12
        have hr := hw.2 trivial
        clear hw
        cases r
        · gi_wp2
          exact bodyPost_ret (results_none rfl _ _ _) rfl ⟨⟨_, rfl⟩, fun _ => False, fun _ h => h.elim, .inr hr.1⟩
        · gi_wp2
          go_roundw
          case rel => exact ⟨k + 1, by omega, by go_num, hr⟩
          case measure => simp [intOf]; omega
    · obtain rfl : n = k := by omega
      gi_wp2
      exact bodyPost_end (results_none rfl _ _ _) rfl ⟨⟨_, rfl⟩, fun _ => False, fun _ h => h.elim, .inl hsc.1⟩
end Go.Proofs.YtmedkmbfggphdaaDoor

namespace Go.Proofs.YtmedkmbfggphdaaDoor
open Go.RowKit Go.Shelf
attribute [local go_sem] Oper.semAt_some

theorem steps_any (w : World) (q : Option Addr) (n c : Nat) : Calls Tryd.prog 97 #[.slice q n c] w fun e w' => e = .returned (.func (.func 104) #[] #[.pointer (some ⟨w.heap.size, 0, none⟩)]) ∧ w'.heap[w.heap.size]? = some (.cells #[.slice q n c] 44 (0, 0)) ∧ Pure w w' := by
  go_enter Tryd.func97, Tryd.ntmps97
  go_wp2
  go_ret
  exact ⟨rfl, World.alloc_heap_new _ _, (Diff.refl _).alloc _⟩

/-- The bound from a to b. -/
def boundO (es : List ME) (a b : Int) : Option Int := (findM a b es 0).map (·.2.v)
def joinsTo (es : List ME) (f : Nat → Int) (n i : Nat) : Bool := (List.range i).all fun j => (boundO es (f j) (f ((j + 1) % n))).isSome
theorem joinsTo_succ (es : List ME) (f : Nat → Int) (n i : Nat) : joinsTo es f n (i + 1) = (joinsTo es f n i && (boundO es (f i) (f ((i + 1) % n))).isSome) := by simp [joinsTo, List.range_succ]
theorem joinsTo_false {es : List ME} {f : Nat → Int} {n i k : Nat} (hk : k < i) (h : (boundO es (f k) (f ((k + 1) % n))).isSome = false) : joinsTo es f n i = false := by
  simp only [joinsTo, List.all_eq_false, List.mem_range]
  exact ⟨k, hk, by rw [h]; simp⟩
def sumTo (es : List ME) (f : Nat → Int) (n : Nat) : Nat → Int
  | 0 => 0
  | i + 1 => sumTo es f n i + (boundO es (f i) (f ((i + 1) % n))).getD 0

set_option maxHeartbeats 2000000 in
theorem joins_any (w : World) (r clock qb qo n c : Nat) (es : List ME) (f : Nat → Int) (hn1 : 1 ≤ n) (hn : n ≤ 1000) (hr : w.heap[r]? = some (mapO es clock)) (hqb : qb < w.heap.size)
    (hrow : ∀ k, k < n → w.cell? ⟨qb, qo + k, none⟩ = some (.int .i64 (f k))) :
    Calls Tryd.prog 78 #[.map (some r), .slice (some ⟨qb, qo, none⟩) n c] w fun e w' => e = .returned (.bool (joinsTo es f n n)) ∧ Pure w w' := by
  have hrl : r < w.heap.size := (Array.getElem?_eq_some_iff.1 hr).1
  refine (callsIn_wide (n := 0)).1 ?_
  have hro : Fence.wide.round = none := rfl
  refine callsIn_of_wp_marks (n := 0) Tryd.func78 rfl trivial ?_ hro
  simp only [Tryd.ntmps78, List.size_toArray, List.length_cons, List.length_nil, Nat.reduceAdd, Nat.reduceSub, Array.replicate_succ, Array.replicate_zero, List.push_toArray, List.append_toArray, List.nil_append, List.cons_append]
  gi_wp2_with fail
  obtain ⟨X, hX⟩ : ∃ X, (w.alloc (.cells #[.map (some r)] 94)).alloc (.cells #[.bool false] 4) = X := ⟨_, rfl⟩
  have hXs : X.heap.size = w.heap.size + 2 := by rw [← hX]; simp
  have hXd : Pure w X := by rw [← hX]; exact ((Diff.refl w).alloc _).alloc _
  have hX0 : X.heap[w.heap.size]? = some (.cells #[.map (some r)] 94 (0, 0)) := by rw [← hX]; exact (Below.heap_alloc _ _ _ (by simp)).trans (World.alloc_heap_new _ _)
  have hX1 : X.heap[w.heap.size + 1]? = some (.cells #[.bool false] 4 (0, 0)) := by
    rw [← hX]
    have := World.alloc_heap_new (w.alloc (.cells #[.map (some r)] 94)) (.cells #[.bool false] 4)
    rwa [World.size_alloc] at this
  rw [hX]
  clear hX
  refine ⟨trivial, rfl, callsIn_wide.2 ((steps_any X _ _ _).mono ?_)⟩
  rintro e w1 ⟨rfl, hst, hp1⟩
  rw [hXs] at hst ⊢
  have hK1 : Kept w [(r, mapO es clock), (w.heap.size, .cells #[.map (some r)] 94), (w.heap.size + 1, .cells #[.bool false] 4)] w1 := by
    refine Kept.pure ⟨hXd, ?_⟩ hp1
    intro x hx
    simp only [List.mem_cons, List.mem_nil_iff, or_false] at hx
    rcases hx with rfl | rfl | rfl
    · exact (hXd.block _ hrl id).trans hr
    · exact hX0
    · exact hX1
  have hs1 : w.heap.size + 3 ≤ w1.heap.size := by have := (Array.getElem?_eq_some_iff.1 hst).1; omega
  have hrow1 : ∀ k, k < n → w1.cell? ⟨qb, qo + k, none⟩ = some (.int .i64 (f k)) := fun k hk => ((pcell hK1.pw).1 _ _ hqb).trans (hrow k hk)
  clear hX0 hX1 hp1 hXd hrow hr
  gi_wp2_with fail
  refine range_law (f := 104) (A := fun y => #[y, .pointer (some ⟨w.heap.size + 2, 0, none⟩)]) (n := n) (es := fun i => #[.agg #[.int .i64 (f i), .int .i64 (f ((i + 1) % n))]]) (R := fun k => k = w.heap.size + 2 ∨ k < w.heap.size) (W0 := w1)
    ?call (steps_iter w1 (w.heap.size + 2) qb qo n c w.heap.size f hn1 hn hst (by omega) (by omega) hqb hrow1) (fun k hk => by rcases hk with h | h <;> omega) (Diff.refl _) (fun _ _ => rfl)
    (fun i => NI w [(r, mapO es clock), (w.heap.size, .cells #[.map (some r)] 94), (w.heap.size + 1, .cells #[.bool false] 4)] (w.heap.size + 3) (joinsTo es f n i = true)) (NI w [(w.heap.size + 1, .cells #[.bool false] 4)] (w.heap.size + 3) (joinsTo es f n n = false)) (fun i => NI.stable (by omega)) (NI.stable (by omega)) ?start
    (fun i W1 a' W' => a' = { tmps := #[.map (some r), .slice (some ⟨qb, qo, none⟩) n c, .pointer (some ⟨w.heap.size, 0, none⟩), undef, .pointer (some ⟨w.heap.size + 1, 0, none⟩), .pointer (some ⟨W1.heap.size, 0, none⟩), undef, undef, .slice (some ⟨qb, qo, none⟩) n c, .func (.func 104) #[] #[.pointer (some ⟨w.heap.size + 2, 0, none⟩)], .agg #[.int .i64 (f i), .int .i64 (f ((i + 1) % n))], undef, undef, undef, undef, undef, undef, undef, undef], defers := [] } ∧
      W'.heap[W1.heap.size]? = some (.cells #[.int .i64 (f i), .int .i64 (f ((i + 1) % n))] 106 (0, 0)))
    ?bx ?assign ?body ?done ?stop
  case call =>
    intro l' W'
    exact ⟨{ target := .fn (.func 104) #[.pointer (some ⟨w.heap.size + 2, 0, none⟩)], args := #[.func (.yield l') #[] #[]] }, by simp only [resolve, rangeCall]; simp [go_sem], by simp [invoke, go_sem, enters_of Tryd.func104 (by kernel_rfl) rfl]⟩
  case start =>
    refine ⟨hK1, fun _ h => h.elim, ?_, hs1, rfl⟩
    intro x hx
    simp only [List.mem_cons, List.mem_nil_iff, or_false] at hx
    rcases hx with rfl | rfl | rfl <;> simp only <;> omega
  case bx =>
    rintro i W1 a' W' L o ⟨h1, h2⟩ hL
    exact ⟨h1, (World.putObj_heap_other (by omega)).trans h2⟩
  case assign =>
    intro l' i O W1 hi hI
    gi_wp2
    exact ⟨(Diff.refl _).alloc _, by first | rfl | trivial, World.alloc_heap_new _ _⟩
  case body =>
    rintro l' i O W1 a' W' hi hI hdo hOb hs1' hs2 ⟨rfl, hcp⟩
    have hN := NI.stable (by omega) O O _ _ hI hdo (fun _ h => .inl h)
    have hk0 := hN.kept.objs (r, mapO es clock) (by simp)
    have hk1 := hN.kept.objs (w.heap.size, .cells #[.map (some r)] 94) (by simp)
    have hk2 := hN.kept.objs (w.heap.size + 1, .cells #[.bool false] 4) (by simp)
    obtain ⟨Bp, hBp⟩ : ∃ Bp, W1.heap.size = Bp := ⟨_, rfl⟩
    rw [hBp] at hcp ⊢
    have z0 : W'.cell? ⟨w.heap.size, 0, none⟩ = some (.map (some r)) := by rw [cell_of_row W' _ _ _ _ _ hk1]; rfl
    have z1 : W'.cell? ⟨Bp, 0, none⟩ = some (.int .i64 (f i)) := by rw [cell_of_row W' _ _ _ _ _ hcp]; rfl
    have z2 : W'.cell? ⟨Bp, 1, none⟩ = some (.int .i64 (f ((i + 1) % n))) := by rw [cell_of_row W' _ _ _ _ _ hcp]; rfl
    have z3 : W'.cell? ⟨w.heap.size + 1, 0, none⟩ = some (.bool false) := by rw [cell_of_row W' _ _ _ _ _ hk2]; rfl
    have y3 : W'.frozen? ⟨w.heap.size + 1, 0, none⟩ = false := frozen_of_row W' _ _ _ _ hk2
    have hlk := run_lookup_ok W' r es clock (f i) (f ((i + 1) % n)) hk0
    obtain ⟨ov, hov⟩ : ∃ ov, boundO es (f i) (f ((i + 1) % n)) = ov := ⟨_, rfl⟩
    have hov2 : (findM (f i) (f ((i + 1) % n)) es 0).isSome = ov.isSome := by rw [← hov]; unfold boundO; rw [Option.isSome_map]
    rw [hov2] at hlk
    obtain ⟨vv, hvv⟩ : ∃ vv, ((findM (f i) (f ((i + 1) % n)) es 0).map (·.2.v)).getD 0 = vv := ⟨_, rfl⟩
    rw [hvv] at hlk
    have HN := Lib.hid hN
    have HOV := Lib.hid hov
    have HK2 := Lib.hid hk2
    have hO1 : ¬ O (w.heap.size + 1) := fun h => by have := hN.own _ h; omega
    clear hN hov hk0 hk1 hk2 hcp hI hdo hBp hov2 hvv
    cases ov with
    | none =>
      rw [show (Option.isSome (none : Option Int)) = false from rfl] at hlk
      gi_wp2
      refine ⟨(Diff.refl _).setCell (fun _ => ⟨by simp, hO1⟩) _, ⟨⟨HN.out.kept.pw.setCell (fun h => absurd h (by simp)) _, ?_⟩, HN.out.own, ?_, by simpa using HN.out.big, joinsTo_false hi (by rw [HOV.out]; rfl)⟩⟩
      · intro x hx
        simp only [List.mem_cons, List.mem_nil_iff, or_false] at hx
        subst hx
        exact heap_setCell_same W' (w.heap.size + 1) 0 #[.bool false] 4 (.bool false) HK2.out
      · intro x hx
        exact HN.out.low x (by simp only [List.mem_cons, List.mem_nil_iff, or_false] at hx ⊢; exact .inr (.inr hx))
    | some vx =>
      rw [show (Option.isSome (some vx)) = true from rfl] at hlk
      gi_wp2
      exact ⟨Diff.refl _, ⟨HN.out.kept, HN.out.own, HN.out.low, HN.out.big, by rw [joinsTo_succ, HN.out.ok, HOV.out]; rfl⟩⟩
  case done =>
    rintro O D W hN hOD hDs hDd
    have hr := hN.kept.objs (w.heap.size + 1, .cells #[.bool false] 4) (by simp)
    have z0 : W.cell? ⟨w.heap.size + 1, 0, none⟩ = some (.bool false) := by rw [cell_of_row W _ _ _ _ _ hr]; rfl
    have y0 : W.frozen? ⟨w.heap.size + 1, 0, none⟩ = false := frozen_of_row W _ _ _ _ hr
    have HP := Lib.hid hN.kept.pw
    have HOK := Lib.hid hN.ok
    have hDO : w.heap.size + 3 ≤ D := hN.own _ hOD
    have hDne : D ≠ w.heap.size + 1 := by omega
    have hDw : ¬ D < w.heap.size := by omega
    clear hr hN
    gi_wp2
    have hDd2 : (W.setCell ⟨w.heap.size + 1, 0, none⟩ (.bool true)).heap[D]? = some (.deferred (some [])) := (heap_setCell_other _ _ _ _ hDne).trans hDd
    refine ⟨by simp, .inl ⟨_, _, rfl, run_takeDeferred hDd2, ?_⟩⟩
    have z1 : ((W.setCell ⟨w.heap.size + 1, 0, none⟩ (.bool true)).putObj D (.deferred none)).cell? ⟨w.heap.size + 1, 0, none⟩ = some (.bool true) :=
      (World.cell?_of_block (World.putObj_heap_other (Ne.symm hDne))).trans (World.cell?_setCell_same _ _ _ z0)
    exact ⟨.bool true, by simp [results, Tryd.results78, go_sem, z1], by rw [HOK.out], (HP.out.setCell (fun h => absurd h (by simp)) _).putObj (fun h => absurd h hDw) _⟩
  case stop =>
    rintro O D W hN hOD hDs hDd
    have hr := hN.kept.objs (w.heap.size + 1, .cells #[.bool false] 4) (by simp)
    have z0 : W.cell? ⟨w.heap.size + 1, 0, none⟩ = some (.bool false) := by rw [cell_of_row W _ _ _ _ _ hr]; rfl
    have HP := Lib.hid hN.kept.pw
    have HOK := Lib.hid hN.ok
    have hDO : w.heap.size + 3 ≤ D := hN.own _ hOD
    have hDne : D ≠ w.heap.size + 1 := by omega
    have hDw : ¬ D < w.heap.size := by omega
    clear hr hN
    gi_wp2
    refine ⟨by simp, .inl ⟨_, _, rfl, run_takeDeferred hDd, ?_⟩⟩
    have z1 : (W.putObj D (.deferred none)).cell? ⟨w.heap.size + 1, 0, none⟩ = some (.bool false) := (World.cell?_of_block (World.putObj_heap_other (Ne.symm hDne))).trans z0
    exact ⟨.bool false, by simp [results, Tryd.results78, go_sem, z1], by rw [HOK.out], HP.out.putObj (fun h => absurd h hDw) _⟩
end Go.Proofs.YtmedkmbfggphdaaDoor

namespace Go.Proofs.YtmedkmbfggphdaaDoor
open Go.RowKit Go.Shelf
attribute [local go_sem] Oper.semAt_some

theorem boundO_small {es : List ME} {clock : Nat} (hg : GoodM es clock) (a b : Int) : -1000 ≤ (boundO es a b).getD 0 ∧ (boundO es a b).getD 0 ≤ 1000 := by
  unfold boundO
  have h := findM_find a b es 0
  cases hf : findM a b es 0 with
  | none => simp
  | some x =>
    rw [hf] at h
    have := hg.small x.2 (List.mem_of_find?_eq_some h.symm)
    simp only [Option.map_some, Option.getD_some]; omega
theorem sumTo_small {es : List ME} {clock : Nat} (hg : GoodM es clock) (f : Nat → Int) (n : Nat) : ∀ i : Nat, -1000 * (i : Int) ≤ sumTo es f n i ∧ sumTo es f n i ≤ 1000 * (i : Int)
  | 0 => by simp [sumTo]
  | i + 1 => by
    have h1 := sumTo_small hg f n i
    have h2 := boundO_small hg (f i) (f ((i + 1) % n))
    simp only [sumTo]; omega

set_option maxHeartbeats 2000000 in
theorem proof_any (w : World) (r clock qb qo n c : Nat) (es : List ME) (f : Nat → Int) (hgd : GoodM es clock) (hn1 : 1 ≤ n) (hn : n ≤ 1000) (hr : w.heap[r]? = some (mapO es clock)) (hqb : qb < w.heap.size)
    (hrow : ∀ k, k < n → w.cell? ⟨qb, qo + k, none⟩ = some (.int .i64 (f k))) :
    Calls Tryd.prog 79 #[.map (some r), .slice (some ⟨qb, qo, none⟩) n c] w fun e w' => e = .returned (.int .i64 (-(sumTo es f n n))) ∧ Pure w w' := by
  have hrl : r < w.heap.size := (Array.getElem?_eq_some_iff.1 hr).1
  refine (callsIn_wide (n := 0)).1 ?_
  have hro : Fence.wide.round = none := rfl
  refine callsIn_of_wp_marks (n := 0) Tryd.func79 rfl trivial ?_ hro
  simp only [Tryd.ntmps79, List.size_toArray, List.length_cons, List.length_nil, Nat.reduceAdd, Nat.reduceSub, Array.replicate_succ, Array.replicate_zero, List.push_toArray, List.append_toArray, List.nil_append, List.cons_append]
  gi_wp2_with fail
  obtain ⟨X, hX⟩ : ∃ X, (w.alloc (.cells #[.map (some r)] 94)).alloc (.cells #[.int .i64 0] 2) = X := ⟨_, rfl⟩
  have hXs : X.heap.size = w.heap.size + 2 := by rw [← hX]; simp
  have hXd : Pure w X := by rw [← hX]; exact ((Diff.refl w).alloc _).alloc _
  have hX0 : X.heap[w.heap.size]? = some (.cells #[.map (some r)] 94 (0, 0)) := by rw [← hX]; exact (Below.heap_alloc _ _ _ (by simp)).trans (World.alloc_heap_new _ _)
  have hX1 : X.heap[w.heap.size + 1]? = some (.cells #[.int .i64 0] 2 (0, 0)) := by
    rw [← hX]
    have := World.alloc_heap_new (w.alloc (.cells #[.map (some r)] 94)) (.cells #[.int .i64 0] 2)
    rwa [World.size_alloc] at this
  rw [hX]
  clear hX
  refine ⟨trivial, rfl, callsIn_wide.2 ((steps_any X _ _ _).mono ?_)⟩
  rintro e w1 ⟨rfl, hst, hp1⟩
  rw [hXs] at hst ⊢
  have hK1 : Kept w [(r, mapO es clock), (w.heap.size, .cells #[.map (some r)] 94), (w.heap.size + 1, .cells #[.int .i64 0] 2)] w1 := by
    refine Kept.pure ⟨hXd, ?_⟩ hp1
    intro x hx
    simp only [List.mem_cons, List.mem_nil_iff, or_false] at hx
    rcases hx with rfl | rfl | rfl
    · exact (hXd.block _ hrl id).trans hr
    · exact hX0
    · exact hX1
  have hs1 : w.heap.size + 3 ≤ w1.heap.size := by have := (Array.getElem?_eq_some_iff.1 hst).1; omega
  have hrow1 : ∀ k, k < n → w1.cell? ⟨qb, qo + k, none⟩ = some (.int .i64 (f k)) := fun k hk => ((pcell hK1.pw).1 _ _ hqb).trans (hrow k hk)
  clear hX0 hX1 hp1 hXd hrow hr
  gi_wp2_with fail
  have hmx : Tryd.prog.follows .mixedOrders = true := by kernel_rfl
  have hsb : Hid (∀ i : Nat, -1000 * (i : Int) ≤ sumTo es f n i ∧ sumTo es f n i ≤ 1000 * (i : Int)) := fun i => sumTo_small hgd f n i
  refine range_law (f := 104) (A := fun y => #[y, .pointer (some ⟨w.heap.size + 2, 0, none⟩)]) (n := n) (es := fun i => #[.agg #[.int .i64 (f i), .int .i64 (f ((i + 1) % n))]]) (R := fun k => k = w.heap.size + 2 ∨ k < w.heap.size) (W0 := w1)
    ?call (steps_iter w1 (w.heap.size + 2) qb qo n c w.heap.size f hn1 hn hst (by omega) (by omega) hqb hrow1) (fun k hk => by rcases hk with h | h <;> omega) (Diff.refl _) (fun _ _ => rfl)
    (fun i => NI w [(r, mapO es clock), (w.heap.size, .cells #[.map (some r)] 94), (w.heap.size + 1, .cells #[.int .i64 (sumTo es f n i)] 2)] (w.heap.size + 3) True) (fun _ _ => False) (fun i => NI.stable (by omega)) (fun _ _ _ _ h _ _ => h.elim) ?start
    (fun i W1 a' W' => a' = { tmps := #[.map (some r), .slice (some ⟨qb, qo, none⟩) n c, .pointer (some ⟨w.heap.size, 0, none⟩), undef, .int .i64 0, .pointer (some ⟨w.heap.size + 1, 0, none⟩), .pointer (some ⟨W1.heap.size, 0, none⟩), .slice (some ⟨qb, qo, none⟩) n c, .func (.func 104) #[] #[.pointer (some ⟨w.heap.size + 2, 0, none⟩)], .agg #[.int .i64 (f i), .int .i64 (f ((i + 1) % n))], undef, undef, undef, undef, undef, undef, undef], defers := [] } ∧
      W'.heap[W1.heap.size]? = some (.cells #[.int .i64 (f i), .int .i64 (f ((i + 1) % n))] 106 (0, 0)))
    ?bx ?assign ?body ?done (fun _ _ _ h => h.elim)
  case call =>
    intro l' W'
    exact ⟨{ target := .fn (.func 104) #[.pointer (some ⟨w.heap.size + 2, 0, none⟩)], args := #[.func (.yield l') #[] #[]] }, by simp only [resolve, rangeCall]; simp [go_sem], by simp [invoke, go_sem, enters_of Tryd.func104 (by kernel_rfl) rfl]⟩
  case start =>
    refine ⟨hK1, fun _ h => h.elim, ?_, hs1, trivial⟩
    intro x hx
    simp only [List.mem_cons, List.mem_nil_iff, or_false] at hx
    rcases hx with rfl | rfl | rfl <;> simp only <;> omega
  case bx =>
    rintro i W1 a' W' L o ⟨h1, h2⟩ hL
    exact ⟨h1, (World.putObj_heap_other (by omega)).trans h2⟩
  case assign =>
    intro l' i O W1 hi hI
    gi_wp2
    exact ⟨(Diff.refl _).alloc _, by first | rfl | trivial, World.alloc_heap_new _ _⟩
  case body =>
    rintro l' i O W1 a' W' hi hI hdo hOb hs1' hs2 ⟨rfl, hcp⟩
    have hN := NI.stable (by omega) O O _ _ hI hdo (fun _ h => .inl h)
    have HSUM : Hid (sumTo es f n (i + 1) = sumTo es f n i + ((findM (f i) (f ((i + 1) % n)) es 0).map (·.2.v)).getD 0) := rfl
    have hsi := hsb.out i
    have hsj := hsb.out (i + 1)
    rw [HSUM.out] at hsj
    obtain ⟨S, hS⟩ : ∃ S, sumTo es f n i = S := ⟨_, rfl⟩
    obtain ⟨vv, hvv⟩ : ∃ vv, ((findM (f i) (f ((i + 1) % n)) es 0).map (·.2.v)).getD 0 = vv := ⟨_, rfl⟩
    rw [hS] at hN HSUM hsi hsj
    rw [hvv] at HSUM hsj
    have hk0 := hN.kept.objs (r, mapO es clock) (by simp)
    have hk1 := hN.kept.objs (w.heap.size, .cells #[.map (some r)] 94) (by simp)
    have hk2 := hN.kept.objs (w.heap.size + 1, .cells #[.int .i64 S] 2) (by simp)
    obtain ⟨Bp, hBp⟩ : ∃ Bp, W1.heap.size = Bp := ⟨_, rfl⟩
    rw [hBp] at hcp ⊢
    have z0 : W'.cell? ⟨w.heap.size, 0, none⟩ = some (.map (some r)) := by rw [cell_of_row W' _ _ _ _ _ hk1]; rfl
    have z1 : W'.cell? ⟨Bp, 0, none⟩ = some (.int .i64 (f i)) := by rw [cell_of_row W' _ _ _ _ _ hcp]; rfl
    have z2 : W'.cell? ⟨Bp, 1, none⟩ = some (.int .i64 (f ((i + 1) % n))) := by rw [cell_of_row W' _ _ _ _ _ hcp]; rfl
    have z3 : W'.cell? ⟨w.heap.size + 1, 0, none⟩ = some (.int .i64 S) := by rw [cell_of_row W' _ _ _ _ _ hk2]; rfl
    have y3 : W'.frozen? ⟨w.heap.size + 1, 0, none⟩ = false := frozen_of_row W' _ _ _ _ hk2
    have hl0 : w.heap.size < W'.heap.size := (Array.getElem?_eq_some_iff.1 hk1).1
    have hl1 : w.heap.size + 1 < W'.heap.size := (Array.getElem?_eq_some_iff.1 hk2).1
    have hlp : Bp < W'.heap.size := (Array.getElem?_eq_some_iff.1 hcp).1
    have hlk : Hid (∀ W2, Pure W' W2 → (Instr.lookup 94 (.map (some r)) (.agg #[.int .i64 (f i), .int .i64 (f ((i + 1) % n))]) false).run Tryd.prog W2 = .ok (.int .i64 vv) W2) := fun W2 hp2 => by
      have := run_lookup_no W2 r es clock (f i) (f ((i + 1) % n)) ((hp2.block _ (Array.getElem?_eq_some_iff.1 hk0).1 id).trans hk0)
      rw [hvv] at this
      exact this
    have HN := Lib.hid hN
    have hO1 : ¬ O (w.heap.size + 1) := fun h => by have := hN.own _ h; omega
    clear hN hk0 hk1 hk2 hcp hI hdo hBp hvv hs1' hs2 hOb hS
    gi_wp2
    refine reg_inv (fun d a W2 => a = { tmps := #[Value.map (some r), Value.slice (some { block := qb, off := qo }) n c, Value.pointer (some { block := w.heap.size, off := 0 }), undef, Value.int IntKind.i64 0, Value.pointer (some { block := w.heap.size + 1, off := 0 }), Value.pointer (some { block := Bp, off := 0 }), Value.slice (some { block := qb, off := qo }) n c, Value.func (Fn.func 104) #[] #[Value.pointer (some { block := w.heap.size + 2, off := 0 })], Value.agg #[Value.int IntKind.i64 (f i), Value.int IntKind.i64 (f ((i + 1) % n))], (bif d 0 then Value.int IntKind.i64 S else undef), (bif d 1 then Value.map (some r) else undef), (bif d 2 then Value.agg #[Value.int IntKind.i64 (f i), Value.int IntKind.i64 (f ((i + 1) % n))] else undef), (bif d 3 then Value.int IntKind.i64 vv else undef), (bif d 4 then Value.int IntKind.i64 (S + vv) else undef), undef, undef], defers := [] } ∧ (d 5 = false → Pure W' W2) ∧ (d 5 = true → ∃ Wp, Pure W' Wp ∧ W2 = Wp.setCell ⟨w.heap.size + 1, 0, none⟩ (.int .i64 (S + vv)))) hmx (by kernel_rfl) ?_ ?_ ?_
    · exact ⟨rfl, fun _ => (Diff.refl _).drew, fun h => by cases h⟩
    · refine ⟨?_, ?_, ?_, ?_, ?_, ?_, trivial⟩
      · rintro d a W2 hdi hdep hcl ⟨rfl, hw⟩ K hK
        replace hdi : d 0 = false := hdi
        have f4 : d 4 = false := hcl.neg hdi 4 (by kernel_rfl)
        have f5 : d 5 = false := hcl.neg hdi 5 (by kernel_rfl)
        clear hdep hcl
        have z := ((pcell (hw.1 f5)).1 _ 0 hl1).trans z3
        go_simp
        exact hK _ _ ⟨by simp [upd, hdi, f4, f5], by simpa [upd] using hw⟩
      · rintro d a W2 hdi hdep hcl ⟨rfl, hw⟩ K hK
        replace hdi : d 1 = false := hdi
        have f3 : d 3 = false := hcl.neg hdi 3 (by kernel_rfl)
        have f4 : d 4 = false := hcl.neg hdi 4 (by kernel_rfl)
        have f5 : d 5 = false := hcl.neg hdi 5 (by kernel_rfl)
        clear hdep hcl
        have z := ((pcell (hw.1 f5)).1 _ 0 hl0).trans z0
        go_simp
        exact hK _ _ ⟨by simp [upd, hdi, f3, f4, f5], by simpa [upd] using hw⟩
      · rintro d a W2 hdi hdep hcl ⟨rfl, hw⟩ K hK
        replace hdi : d 2 = false := hdi
        have f3 : d 3 = false := hcl.neg hdi 3 (by kernel_rfl)
        have f4 : d 4 = false := hcl.neg hdi 4 (by kernel_rfl)
        have f5 : d 5 = false := hcl.neg hdi 5 (by kernel_rfl)
        clear hdep hcl
        have y0 := ((pcell (hw.1 f5)).1 _ 0 hlp).trans z1
        have y1 := ((pcell (hw.1 f5)).1 _ 1 hlp).trans z2
        go_simp
        exact hK _ _ ⟨by simp [upd, hdi, f3, f4, f5], by simpa [upd] using hw⟩
      · rintro d a W2 hdi hdep hcl ⟨rfl, hw⟩ K hK
        replace hdi : d 3 = false := hdi
        have e1 : d 1 = true := hcl.pos 3 rfl hdep 1 29 (by kernel_rfl)
        have e2 : d 2 = true := hcl.pos 3 rfl hdep 2 29 (by kernel_rfl)
        have f4 : d 4 = false := hcl.neg hdi 4 (by kernel_rfl)
        have f5 : d 5 = false := hcl.neg hdi 5 (by kernel_rfl)
        clear hdep hcl
        have hlk := hlk.out W2 (hw.1 f5)
        go_simp
        exact hK _ _ ⟨by simp [upd, hdi, e1, e2, f4, f5], by simpa [upd] using hw⟩
      · rintro d a W2 hdi hdep hcl ⟨rfl, hw⟩ K hK
        replace hdi : d 4 = false := hdi
        have e0 : d 0 = true := hcl.pos 4 rfl hdep 0 29 (by kernel_rfl)
        have e1 : d 1 = true := hcl.pos 4 rfl hdep 1 29 (by kernel_rfl)
        have e2 : d 2 = true := hcl.pos 4 rfl hdep 2 29 (by kernel_rfl)
        have e3 : d 3 = true := hcl.pos 4 rfl hdep 3 29 (by kernel_rfl)
        have f5 : d 5 = false := hcl.neg hdi 5 (by kernel_rfl)
        clear hdep hcl
        have HWR := Lib.hid (IntWalk.i64_in (S + vv) (by omega))
        go_simp
        exact hK _ _ ⟨by simp [upd, hdi, e0, e1, e2, e3, f5, HWR.out], by simpa [upd] using hw⟩
      · rintro d a W2 hdi hdep hcl ⟨rfl, hw⟩ K hK
        replace hdi : d 5 = false := hdi
        have e0 : d 0 = true := hcl.pos 5 rfl hdep 0 29 (by kernel_rfl)
        have e1 : d 1 = true := hcl.pos 5 rfl hdep 1 29 (by kernel_rfl)
        have e2 : d 2 = true := hcl.pos 5 rfl hdep 2 29 (by kernel_rfl)
        have e3 : d 3 = true := hcl.pos 5 rfl hdep 3 29 (by kernel_rfl)
        have e4 : d 4 = true := hcl.pos 5 rfl hdep 4 29 (by kernel_rfl)
        clear hdep hcl
        have z := ((pcell (hw.1 hdi)).1 _ 0 hl1).trans z3
        have y := ((pcell (hw.1 hdi)).2 _ 0 hl1).trans y3
        go_simp
        exact hK _ _ ⟨by simp [upd, hdi, e0, e1, e2, e3, e4], by simp [upd], fun _ => ⟨W2, hw.1 hdi, rfl⟩⟩
    · rintro d a W2 hall ⟨rfl, hw⟩
      simp [List.range_succ] at hall
      obtain ⟨e0, e1, e2, e3, e4, e5⟩ := hall
      simp only [e0, e1, e2, e3, e4, e5, cond_true] at hw ⊢
      clear e0 e1 e2 e3 e4 e5
      obtain ⟨Wp, hPp, rfl⟩ := hw.2 trivial
      clear hw
      gi_wp2
      have HN2 := HN.out.pure hPp
      refine ⟨(hPp.mono (fun _ _ h => h.elim)).setCell (fun _ => ⟨by simp, hO1⟩) _, ⟨⟨HN2.kept.pw.setCell (fun h => absurd h (by simp)) _, ?_⟩, HN2.own, ?_, by simpa using HN2.big, trivial⟩⟩
      · intro x hx
        simp only [List.mem_cons, List.mem_nil_iff, or_false] at hx
        rcases hx with rfl | rfl | rfl
        · exact (heap_setCell_other _ _ _ _ (by simp only; omega)).trans (HN2.kept.objs (r, mapO es clock) (by simp))
        · exact (heap_setCell_other _ _ _ _ (by simp)).trans (HN2.kept.objs (w.heap.size, .cells #[.map (some r)] 94) (by simp))
        · have := heap_setCell_same Wp (w.heap.size + 1) 0 #[.int .i64 S] 2 (.int .i64 (S + vv)) (HN2.kept.objs (w.heap.size + 1, .cells #[.int .i64 S] 2) (by simp))
          show _ = some (Obj.cells #[.int .i64 (sumTo es f n (i + 1))] 2 (0, 0))
          rw [HSUM.out]
          exact this
      · intro x hx
        simp only [List.mem_cons, List.mem_nil_iff, or_false] at hx
        rcases hx with rfl | rfl | rfl <;> simp only <;> omega
  case done =>
    rintro O D W hN hOD hDs hDd
    have hr := hN.kept.objs (w.heap.size + 1, .cells #[.int .i64 (sumTo es f n n)] 2) (by simp)
    have z0 : W.cell? ⟨w.heap.size + 1, 0, none⟩ = some (.int .i64 (sumTo es f n n)) := by rw [cell_of_row W _ _ _ _ _ hr]; rfl
    have HP := Lib.hid hN.kept.pw
    have hDO : w.heap.size + 3 ≤ D := hN.own _ hOD
    have hDw : ¬ D < w.heap.size := by omega
    have hsn := hsb.out n
    obtain ⟨S, hS⟩ : ∃ S, sumTo es f n n = S := ⟨_, rfl⟩
    rw [hS] at z0 hsn
    have HS := Lib.hid hS
    clear hr hN hS
    gi_wp2
    refine ⟨by simp, .inl ⟨_, _, rfl, run_takeDeferred hDd, ?_⟩⟩
    exact ⟨.int .i64 (-S), by simp [results, Tryd.results79, go_sem], by rw [HS.out], HP.out.putObj (fun h => absurd h hDw) _⟩
end Go.Proofs.YtmedkmbfggphdaaDoor

namespace Go.Proofs.YtmedkmbfggphdaaDoor
open Go.RowKit

def idxTo (f : Nat → Int) (x : Int) (n : Nat) : Option Nat := (List.range n).find? fun k => x == f k
theorem idxTo_succ (f : Nat → Int) (x : Int) (n : Nat) : idxTo f x (n + 1) = (idxTo f x n).or (if x = f n then some n else none) := by
  unfold idxTo
  rw [List.range_succ, List.find?_append]
  by_cases h : x = f n <;> simp [h]
theorem idxTo_mono {f : Nat → Int} {x : Int} {n k : Nat} (h : idxTo f x n = some k) : ∀ {m}, n ≤ m → idxTo f x m = some k
  | 0, hm => by obtain rfl : n = 0 := by omega
                exact h
  | m + 1, hm => by
    by_cases e : n = m + 1
    · subst e; exact h
    · rw [idxTo_succ, idxTo_mono h (m := m) (by omega)]; rfl
def idxI (f : Nat → Int) (x : Int) (n : Nat) : Int := match idxTo f x n with | some k => (k : Int) | none => -1

theorem Index_any (w : World) (q : Option Addr) (n c : Nat) (f : Nat → Int) (x : Int) (hn : n ≤ 1000) (hr : Row w.heap.size w q n fun k => .int .i64 (f k)) :
    Calls Tryd.prog 98 #[.slice q n c, .int .i64 x] w fun e w' => e = .returned (.int .i64 (idxI f x n)) ∧ Pure w w' := by
  go_enter Tryd.func98, Tryd.ntmps98
  go_wp2
  go_loop [5, 8] (fun _ i => ∃ k : Nat, k ≤ n ∧ i = .int .i64 k ∧ idxTo f x k = none) (fun _ i => n - (intOf i).toNat)
  case atStart => exact ⟨0, Nat.zero_le _, rfl, rfl⟩
  case round =>
    obtain ⟨k, hk, rfl, hnone⟩ := hrel
    have HA := Lib.hid hnone
    clear hnone
    by_cases hlt : k < n
    · obtain ⟨blk, o, rfl, hblk, hc⟩ := hr k hlt
      by_cases h1 : x = f k
      · have HF : Hid (idxI f x n = k) := by
          show _ = _
          unfold idxI
          rw [idxTo_mono (n := k + 1) (k := k) (by rw [idxTo_succ, HA.out, if_pos h1]; rfl) (by omega)]
        have hbq : (x == f k) = true := by simp [h1]
        clear h1
        go_wp2
        go_ret
        exact ⟨by rw [HF.out]; rfl, Diff.refl _⟩
      · have HS : Hid (idxTo f x (k + 1) = none) := by show _ = _; rw [idxTo_succ, HA.out, if_neg h1]; rfl
        go_wp2
        go_round
        case rel => exact ⟨k + 1, by omega, by go_num, HS.out⟩
        case measure => simp [intOf]; omega
    · obtain rfl : n = k := by omega
      have HF : Hid (idxI f x n = -1) := by show _ = _; unfold idxI; rw [HA.out]
      go_wp2
      go_ret
      exact ⟨by rw [HF.out]; rfl, Diff.refl _⟩
end Go.Proofs.YtmedkmbfggphdaaDoor
