/- TasteOrder: sittings can come the other way round. The walk of the law, for any book in memory. -/
import Derived.Test.YtmedkmbfggphdaaDoorCd
import Derived.Test.YtmedkmbfggphdaaDoorSa
import Derived.Test.YtmedkmbfggphdaaDoorT11a
import Derived.Test.YtmedkmbfggphdaaDoorU3
import Derived.Test.YtmedkmbfggphdaaDoorN6
set_option linter.unusedSimpArgs false
set_option linter.unusedVariables false
set_option linter.constructorNameAsVariable false
namespace Go.Proofs.YtmedkmbfggphdaaDoor
open Go.RowKit

/-- What is known in a round that appends one sitting to the book in block g2, by what is done. -/
structure PS (B : Nat) (b : BK) (j g2 : Nat) (ss : List Value) (v sl : Value) (wr : World) (ib : Nat) (v' : Value) (x7 x8 x10 : Bool) (W : World) : Prop where
  p : x8 = false → Pure wr W
  i : x7 = true → x8 = false → wr.heap.size ≤ ib ∧ W.heap[ib]? = some (.cells #[sl] 59 (0, 0))
  z : x8 = true → W.ownsRow B 59 1 v' (j + 1) (ss ++ [sl]) ∧ Diff (fun x => (x10 = true ∧ x = g2) ∨ some x = v.ownBlock) wr W
  y : x10 = true → W.heap[g2]? = some (.cells #[.int .i64 b.lo, .int .i64 b.hi, .int .i64 b.lots, v'] 26 (0, 0))
theorem PS.start (B : Nat) (b : BK) (j g2 : Nat) (ss : List Value) (v sl : Value) (wr : World) (ib : Nat) (v' : Value) : PS B b j g2 ss v sl wr ib v' false false false wr.drew :=
  ⟨fun _ => (Diff.refl wr).drew, fun h => Bool.noConfusion h, fun h => Bool.noConfusion h, fun h => Bool.noConfusion h⟩
theorem PS.box {B : Nat} {b : BK} {j g2 : Nat} {ss : List Value} {v sl : Value} {wr : World} {ib : Nat} {v' : Value} {W : World} (h : PS B b j g2 ss v sl wr ib v' false false false W) :
    PS B b j g2 ss v sl wr W.heap.size v' true false false (W.alloc (.cells #[sl] 59)) :=
  ⟨fun _ => (h.p rfl).alloc _, fun _ _ => ⟨(h.p rfl).size, World.alloc_heap_new _ _⟩, fun h => Bool.noConfusion h, fun h => Bool.noConfusion h⟩
theorem PS.push {B : Nat} {b : BK} {j g2 : Nat} {ss : List Value} {v : Value} {q : Option Addr} {m c : Nat} {wr : World} {ib : Nat} {v' : Value} {W : World} (h : PS B b j g2 ss v (.slice q m c) wr ib v' true false false W) (ho : wr.ownsRow B 59 1 v j ss) (hj : j ≤ 100) (hB : B ≤ wr.heap.size) :
    ∃ v1 w', (Builtin.append_ #[24, 24] 24 #[v, .slice (some ⟨ib, 0, none⟩) 1 1]).run Tryd.prog W = .ok v1 w' ∧ PS B b j g2 ss v (.slice q m c) wr ib v1 true true false w' := by
  obtain ⟨i9, hi9, hz9, hsz9, hby9⟩ := info59'
  have hp := h.p rfl
  obtain ⟨h1, h2⟩ := h.i rfl rfl
  obtain ⟨v', w', hr2, o2, g2', -, -⟩ := run_append_own_at (P := Tryd.prog) W B 24 24 59 i9 (.slice none 0 0) 1 24 Tryd.underlying24 hi9 hz9 hsz9 hby9 rfl (by omega) v j ss (own_pure ho hp)
    ⟨ib, 0, none⟩ 1 1 [.slice q m c] rfl (fun k x hk => by
      have hadd : (⟨ib, 0, none⟩ : Addr).add k = ⟨ib, k, none⟩ := by unfold Addr.add; split <;> simp_all
      rw [hadd, cell_of_row _ _ _ _ _ _ h2]
      match k with
      | 0 => simpa using hk
      | k + 1 => simp at hk) (by simp [Value.oneCell']) (by simp only [maxLen]; omega) (by omega) (Nat.le_trans hB hp.size)
  have hd : Diff (fun x => some x = v.ownBlock) wr w' :=
    ⟨g2'.os.trans hp.os, g2'.tape.trans hp.tape, g2'.output.trans hp.output, Nat.le_trans hp.size g2'.size, fun x hx ho => (g2'.block x (Nat.lt_of_lt_of_le hx hp.size) ho).trans (hp.block x hx id)⟩
  exact ⟨v', w', hr2, fun h => Bool.noConfusion h, fun _ h => Bool.noConfusion h, fun _ => ⟨o2, hd.mono fun x _ hx => .inr hx⟩, fun h => Bool.noConfusion h⟩
theorem own_form {B : Nat} {w : World} {v : Value} {T j : Nat} {ss : List Value} (h : w.ownsRow B T 1 v j ss) : ∃ q c, v = .slice q j c := by
  rcases h.2 with ⟨rfl, rfl⟩ | ⟨g, c', cur, rfl, _⟩
  · exact ⟨none, 0, rfl⟩
  · exact ⟨_, c', rfl⟩
theorem PS.blk {B : Nat} {b : BK} {j g2 : Nat} {ss : List Value} {v sl : Value} {wr : World} {ib : Nat} {v' : Value} {W : World} (h : PS B b j g2 ss v sl wr ib v' true true false W) (ho : wr.ownsRow B 59 1 v j ss) (hg : g2 < B) (h2 : g2 < wr.heap.size) {C : Obj}
    (hC : wr.heap[g2]? = some C) : W.heap[g2]? = some C := by
  refine ((h.z rfl).2.block g2 h2 (fun e => ?_)).trans hC
  rcases e with ⟨e, _⟩ | e
  · cases e
  · have := (ho.lt g2 e.symm).1; omega
theorem PS.store {B : Nat} {b : BK} {j g2 : Nat} {ss : List Value} {v sl : Value} {wr : World} {ib : Nat} {v' : Value} {W : World} (h : PS B b j g2 ss v sl wr ib v' true true false W) (ho : wr.ownsRow B 59 1 v j ss) (hg : g2 < B) (h2 : g2 < wr.heap.size)
    (hC : wr.heap[g2]? = some (.cells #[.int .i64 b.lo, .int .i64 b.hi, .int .i64 b.lots, v] 26 (0, 0))) : PS B b j g2 ss v sl wr ib v' true true true (W.setCell ⟨g2, 3, none⟩ v') := by
  have hblk := h.blk ho hg h2 hC
  obtain ⟨hs, hd⟩ := h.z rfl
  refine ⟨fun h => Bool.noConfusion h, fun _ h => Bool.noConfusion h, fun _ => ⟨ownsRow_setCell_below hs hg v', ?_⟩, fun _ => ?_⟩
  · exact (hd.mono (fun x _ hx => hx.elim (fun e => by cases e.1) .inr)).setCell (fun _ => .inl ⟨rfl, rfl⟩) _
  · unfold World.setCell
    show (W.heap.modify g2 _)[g2]? = _
    rw [Array.getElem?_modify, if_pos rfl, hblk]
    rfl
/-- The sittings that stand behind j rounds. -/
def OrdI (B : Nat) (X : World) (b : BK) (w : World) (v : Value) (j : Nat) : Prop :=
  ∃ ss, w.ownsRow B 59 1 v j ss ∧ ∀ i, i < j → ∃ q c, ss[i]? = some (.slice q (b.m (b.n - 1 - i)) c) ∧ SitAt X.heap.size X q (b.m (b.n - 1 - i)) (b.t (b.n - 1 - i))
theorem OrdI.book {B : Nat} {X w : World} {b : BK} {p : Option Addr} {c : Nat} (h : OrdI B X b w (.slice p b.n c) b.n) (hd : Pure X w) : BookAt w.heap.size w p b.rev := by
  intro k hk
  have hk' : k < b.n := hk
  obtain ⟨ss, h1, h2⟩ := h
  obtain ⟨q, c', h3, h4⟩ := h2 k hk'
  rcases h1.2 with ⟨e1, e2⟩ | ⟨g, c1, cur, e1, h5, h6, -⟩
  · omega
  · cases e1
    have hg : g < w.heap.size := (Array.getElem?_eq_some_iff.1 h6).1
    refine ⟨g, 0, q, c', rfl, hg, ?_, (h4.diff hd (Nat.le_refl _) (fun _ _ => id)).mono hd.size⟩
    rw [Nat.zero_add, World.ownsRow.cellAt h1 k (by omega)]
    exact h3
/-- What Wrong returns for a valid book. -/
theorem wrong_ok (w : World) (b : BK) (p : Option Addr) (cap N : Nat) (hs : b.Small) (hck : checkB b = 0) (hL : b.lots = N) (hb : BookAt w.heap.size w p b) (hg : Gl w) :
    Calls Tryd.prog 44 #[bookV b p cap] w fun e w' => (∃ q c, e = .returned (.tuple #[.slice q (wrongTo b N b.total).length c, .int .i64 0]) ∧ RowL w' q (wrongTo b N b.total)) ∧ Pure w w' := by
  refine (Wrong_any w b p cap hs hb hg).mono fun e w' ⟨h, hp⟩ => ⟨?_, hp⟩
  rw [if_neg (by omega)] at h
  obtain ⟨u, L, hL', rfl, ho⟩ := h
  obtain rfl : L = N := by omega
  obtain ⟨q, c, rfl, hc⟩ := slice_of_own ho
  refine ⟨q, c, rfl, fun k hk => ?_⟩
  obtain ⟨g, rfl, hg, hx⟩ := hc k hk
  refine ⟨g, 0, rfl, hg, ?_⟩
  rw [Nat.zero_add, hx]
  show (vals (wrongTo b L b.total))[k]? = some (.int .i64 ((wrongTo b L b.total).getD k 0))
  unfold vals
  rw [List.getElem?_map, List.getD_eq_getElem?_getD, List.getElem?_eq_getElem hk]
  rfl

set_option maxRecDepth 20000 in
set_option maxHeartbeats 16000000 in
theorem OrderLaw_any (w : World) (b : BK) (p : Option Addr) (cap : Nat) (hb : BookAt w.heap.size w p b) (hg : Gl w) :
    Calls Tryd.prog 16 #[bookV b p cap] w fun e w' => e = .returned (.bool true) ∧ Pure w w' := by
  have hmx : Tryd.prog.follows .mixedOrders = true := by kernel_rfl
  have HB := Lib.hid hb
  have HG := Lib.hid hg
  clear hb hg
  go_enter Tryd.func16, Tryd.ntmps16
  go_wp2_with fail
  obtain ⟨X, hX⟩ : ∃ X, w.alloc (.cells (bookC b p cap) 26) = X := ⟨_, rfl⟩
  have hP : Hid (Pure w X) := by rw [← hX]; exact (Diff.refl w).alloc _
  have hX1 : BoxB w.heap.size b p cap X := by rw [← hX]; exact BoxB.new w b p cap 26
  obtain ⟨g0, hg0⟩ : ∃ g, w.heap.size = g := ⟨_, rfl⟩
  rw [hX]
  rw [hg0] at hX1 ⊢
  clear hX hg0
  have H0 := Lib.hid hX1
  obtain ⟨c0, c1', c2', c3, cl⟩ := hX1
  refine (fine_any X b p cap (HB.out.to hP.out)).mono ?_
  rintro e w1 ⟨rfl, hp1⟩
  have hP1 : Hid (Pure w w1) := hP.out.trans hp1
  have HA1 := Lib.hid (H0.out.pure hp1)
  clear c0 c1' c2' c3 cl hp1 hP H0
  obtain ⟨za0, za1, za2, za3, zal⟩ := HA1.out
  cases hfine : fineB b with
  | false =>
    go_wp2_with fail
    refine (Works_any w1 (HG.out.to hP1.out)).mono ?_
    rintro e w2 ⟨rfl, hp2⟩
    have hP2 : Hid (Pure w w2) := hP1.out.trans hp2
    clear hp2
    go_wp2_with fail
    exact bodyPost_ret (v := .bool true) (by simp [results, Tryd.results16, go_sem]) rfl ⟨rfl, hP2.out⟩
  | true =>
    obtain ⟨hs, hck⟩ := fineB_iff.1 hfine
    have hv := checkB_valid hck
    have HCK := Lib.hid hck
    clear hck hfine
    have HB1 := Lib.hid (HB.out.to hP1.out)
    have HG1 := Lib.hid (HG.out.to hP1.out)
    clear HB HG
    have hl1 := hv.lots1
    have hl6 := hv.lots6
    have hn4 := hv.n4
    obtain ⟨N, hN⟩ := Int.eq_ofNat_of_zero_le (show 0 ≤ b.lots by omega)
    have hN1 : 1 ≤ N := by omega
    have hN6 : N ≤ 6 := by omega
    have HLN := Lib.hid hN
    have HS := Lib.hid hs
    clear hN hl1 hl6 hs
    go_wp2_with fail
    obtain ⟨X, hX⟩ : ∃ X, w1.alloc (.cells #[.int .i64 b.lo, .int .i64 b.hi, .int .i64 b.lots, .slice none 0 0] 26) = X := ⟨_, rfl⟩
    have HPX : Hid (Pure w1 X) := by show Pure w1 X; rw [← hX]; exact (Diff.refl _).alloc _
    have HX2 : Hid (X.heap[w1.heap.size]? = some (.cells #[.int .i64 b.lo, .int .i64 b.hi, .int .i64 b.lots, .slice none 0 0] 26 (0, 0))) := by show _ = _; rw [← hX]; exact World.alloc_heap_new _ _
    have hXs : X.heap.size = w1.heap.size + 1 := by rw [← hX]; simp
    obtain ⟨g2, hg2⟩ : ∃ g, w1.heap.size = g := ⟨_, rfl⟩
    rw [hX]
    rw [hg2] at HX2 hXs ⊢
    have h2X : g2 < X.heap.size := by omega
    have HG2 := Lib.hid hg2
    have HAX := Lib.hid (HA1.out.pure HPX.out)
    have HBX := Lib.hid (HB1.out.to HPX.out)
    have HGX := Lib.hid (HG1.out.to HPX.out)
    have HPw : Hid (Pure w X) := hP1.out.trans HPX.out
    have hg0 : g0 < g2 := by have := HA1.out.lt; omega
    clear hX hXs hg2 za0 za1 za2 za3 zal
    obtain ⟨a0, a1, a2, a3, al⟩ := HAX.out
    have hwn : IntKind.i64.wrap ((b.n : Int) - 1) = (b.n : Int) - 1 := IntWalk.i64_in _ (by omega)
    go_wp2_with fail
    clear a0 a1 a2 a3 al hwn
    go_loopw [4] (fun i wr => ∃ (j : Nat) (v : Value), j ≤ b.n ∧ i = .int .i64 ((b.n : Int) - 1 - j) ∧ Hid (OrdI X.heap.size w1 b wr v j) ∧ Hid (wr.heap[g2]? = some (.cells #[.int .i64 b.lo, .int .i64 b.hi, .int .i64 b.lots, v] 26 (0, 0))) ∧ Hid (Diff (fun x => x = g2) X wr)) (fun i _ => (intOf i + 1).toNat)
    case atStart => exact ⟨0, _, Nat.zero_le _, by simp, ⟨[], World.ownsRow_nil _ _ _ _, fun i hi => by omega⟩, HX2.out, Diff.refl _⟩
    case round =>
      obtain ⟨j, v, hj, rfl, HT, HC, HD⟩ := hrel
      have hb0 : wr.heap[g0]? = X.heap[g0]? := HD.out.block g0 HAX.out.lt (by show ¬ g0 = g2; omega)
      have hc0 : ∀ o, wr.cell? ⟨g0, o, none⟩ = X.cell? ⟨g0, o, none⟩ := fun o => World.cell?_of_block hb0
      have a3 := (hc0 3).trans HAX.out.c3
      clear hb0
      have HC0 := Lib.hid hc0
      clear hc0
      by_cases hjn : j < b.n
      · obtain ⟨k, hk⟩ : ∃ k, b.n - 1 - j = k := ⟨_, rfl⟩
        have hk2 : (b.n : Int) - 1 - j = k := by omega
        have hkn : k < b.n := by omega
        rw [hk2]
        obtain ⟨sb, so, q, c, hq0, hsb, hc, hsit⟩ := HB1.out k hkn
        subst hq0
        have hsg : sb < g2 := by have := HG2.out; omega
        have hki : (k : Int) < b.n := by omega
        have hk0 : (0 : Int) ≤ k := by omega
        have hsz := HD.out.size
        have HCR : Hid (wr.cell? ⟨sb, so + k, none⟩ = some (.slice q (b.m k) c)) := (HD.out.cell (p := ⟨sb, so + k, none⟩) (by show sb < _; omega) (by show ¬ sb = g2; omega)).trans (((pcell HPX.out).1 _ _ hsb).trans hc)
        have HSIT : Hid (SitAt w1.heap.size w1 q (b.m k) (b.t k)) := hsit
        have HSZ : Hid (sb < wr.heap.size ∧ g0 < wr.heap.size ∧ g2 < wr.heap.size ∧ X.heap.size ≤ wr.heap.size) := ⟨by omega, by omega, by omega, hsz⟩
        have HA3 := Lib.hid a3
        obtain ⟨ss, hown, hall⟩ := HT.out
        have HO := Lib.hid hown
        have HALL := Lib.hid hall
        have HK := Lib.hid hk
        have HK2 := Lib.hid hk2
        clear hc hsit hk hk2 hsb hsz hown hall
        go_wp2_with fail
        refine reg_invW (fun d a W => ∃ (ib : Nat) (v' : Value), a = { tmps := #[bookV b (some { block := sb, off := so }) cap, Value.pointer (some { block := g0, off := 0 }), Value.bool false, Value.pointer (some { block := g2, off := 0 }), Value.int IntKind.i64 (k : Int), undef, undef, undef, undef, undef, undef, undef, undef, undef, undef, Value.agg #[Value.int IntKind.i64 b.lo, Value.int IntKind.i64 b.hi, Value.int IntKind.i64 b.lots, Value.slice (some { block := sb, off := so }) b.n cap], Value.bool true, Value.bool false, undef, Value.pointer (some { block := g0, off := 0 }), Value.agg #[Value.int IntKind.i64 b.lo, Value.int IntKind.i64 b.hi], Value.pointer (some { block := g0, off := 2 }), Value.int IntKind.i64 b.lots, Value.agg #[Value.int IntKind.i64 b.lo, Value.int IntKind.i64 b.hi, Value.int IntKind.i64 b.lots, Value.slice none 0 0], Value.pointer (some { block := g0, off := 3 }), Value.slice (some { block := sb, off := so }) b.n cap, Value.int IntKind.i64 (b.n : Int), Value.int IntKind.i64 ((b.n : Int) - 1), Value.int IntKind.i64 (k : Int), Value.bool true, u30, u31, (bif d 0 then Value.pointer (some { block := g2, off := 3 }) else u32), (bif d 1 then v else u33), (bif d 2 then Value.pointer (some { block := g0, off := 3 }) else u34), (bif d 3 then Value.slice (some { block := sb, off := so }) b.n cap else u35), (bif d 4 then Value.int IntKind.i64 (k : Int) else u36), (bif d 5 then Value.pointer (some { block := sb, off := so + k }) else u37), (bif d 6 then Value.slice q (b.m k) c else u38), (bif d 7 then Value.slice (some { block := ib, off := 0 }) 1 1 else u39), (bif d 8 then v' else u40), (bif d 9 then Value.pointer (some { block := g2, off := 3 }) else u41), undef, undef, undef, undef, undef, undef, undef, undef, undef, undef, undef, undef, undef, undef, undef, undef, undef, undef, undef, undef, undef, undef, undef, undef, undef, undef, undef, undef, undef, undef, undef, undef, undef, undef, undef, undef, undef, undef, undef, undef, undef, undef, undef, undef, undef, undef, undef, undef, undef, undef, undef, undef, undef, undef, undef, undef, undef, undef, undef], defers := [] } ∧ Hid (PS X.heap.size b j g2 ss v (.slice q (b.m k) c) wr ib v' (d 7) (d 8) (d 10) W)) hmx (by kernel_rfl) ?_ ?_ ?_
        · exact ⟨0, undef, rfl, PS.start _ _ _ _ _ _ _ _ _ _⟩
        · refine ⟨?_, ?_, ?_, ?_, ?_, ?_, ?_, ?_, ?_, ?_, ?_, trivial⟩
          · rintro d a W hdi hdep hcl ⟨ib, v', rfl, hw⟩ K hK
            have E := hcl.facts 0 hdi rfl hdep [] [1, 8, 9, 10] (by kernel_rfl) (by kernel_rfl)
            simp only [AllT, AllF] at E
            clear hdi hdep hcl
            go_simp
            refine hK _ _ ⟨ib, v', by simp [upd, E], ?_⟩
            first | exact hw | simpa [upd, E] using hw
          · rintro d a W hdi hdep hcl ⟨ib, v', rfl, hw⟩ K hK
            have E := hcl.facts 1 hdi rfl hdep [0] [8, 9, 10] (by kernel_rfl) (by kernel_rfl)
            simp only [AllT, AllF] at E
            clear hdi hdep hcl
            have hp := hw.out.p (by simp [E])
            have o3 : W.cell? ⟨g2, 3, none⟩ = some v := ((pcell hp).1 _ _ HSZ.out.2.2.1).trans (by rw [cell_of_row wr _ _ _ _ _ HC.out]; rfl)
            clear hp
            go_simp
            refine hK _ _ ⟨ib, v', by simp [upd, E], ?_⟩
            first | exact hw | simpa [upd, E] using hw
          · rintro d a W hdi hdep hcl ⟨ib, v', rfl, hw⟩ K hK
            have E := hcl.facts 2 hdi rfl hdep [] [3, 5, 6, 7, 8, 9, 10] (by kernel_rfl) (by kernel_rfl)
            simp only [AllT, AllF] at E
            clear hdi hdep hcl
            go_simp
            refine hK _ _ ⟨ib, v', by simp [upd, E], ?_⟩
            first | exact hw | simpa [upd, E] using hw
          · rintro d a W hdi hdep hcl ⟨ib, v', rfl, hw⟩ K hK
            have E := hcl.facts 3 hdi rfl hdep [2] [5, 6, 7, 8, 9, 10] (by kernel_rfl) (by kernel_rfl)
            simp only [AllT, AllF] at E
            clear hdi hdep hcl
            have hp := hw.out.p (by simp [E])
            have o3 := ((pcell hp).1 _ _ HSZ.out.2.1).trans HA3.out
            clear hp
            go_simp
            refine hK _ _ ⟨ib, v', by simp [upd, E], ?_⟩
            first | exact hw | simpa [upd, E] using hw
          · rintro d a W hdi hdep hcl ⟨ib, v', rfl, hw⟩ K hK
            have E := hcl.facts 4 hdi rfl hdep [] [5, 6, 7, 8, 9, 10] (by kernel_rfl) (by kernel_rfl)
            simp only [AllT, AllF] at E
            clear hdi hdep hcl
            go_simp
            refine hK _ _ ⟨ib, v', by simp [upd, E], ?_⟩
            first | exact hw | simpa [upd, E] using hw
          · rintro d a W hdi hdep hcl ⟨ib, v', rfl, hw⟩ K hK
            have E := hcl.facts 5 hdi rfl hdep [2, 3, 4] [6, 7, 8, 9, 10] (by kernel_rfl) (by kernel_rfl)
            simp only [AllT, AllF] at E
            clear hdi hdep hcl
            go_simp
            refine hK _ _ ⟨ib, v', by simp [upd, E], ?_⟩
            first | exact hw | simpa [upd, E] using hw
          · rintro d a W hdi hdep hcl ⟨ib, v', rfl, hw⟩ K hK
            have E := hcl.facts 6 hdi rfl hdep [2, 3, 4, 5] [7, 8, 9, 10] (by kernel_rfl) (by kernel_rfl)
            simp only [AllT, AllF] at E
            clear hdi hdep hcl
            have hp := hw.out.p (by simp [E])
            have o3 := ((pcell hp).1 _ _ HSZ.out.1).trans HCR.out
            clear hp
            go_simp
            refine hK _ _ ⟨ib, v', by simp [upd, E], ?_⟩
            first | exact hw | simpa [upd, E] using hw
          · rintro d a W hdi hdep hcl ⟨ib, v', rfl, hw⟩ K hK
            have E := hcl.facts 7 hdi rfl hdep [2, 3, 4, 5, 6] [8, 9, 10] (by kernel_rfl) (by kernel_rfl)
            simp only [AllT, AllF] at E
            clear hdi hdep hcl
            have h := hw.out
            rw [show d 7 = false by simp [E], show d 8 = false by simp [E], show d 10 = false by simp [E]] at h
            go_simp
            exact hK _ _ ⟨W.heap.size, v', by simp [upd, E], by rw [show upd d 7 7 = true by simp [upd, E], show upd d 7 8 = false by simp [upd, E], show upd d 7 10 = false by simp [upd, E]]; exact h.box⟩
          · rintro d a W hdi hdep hcl ⟨ib, v', rfl, hw⟩ K hK
            have E := hcl.facts 8 hdi rfl hdep [0, 1, 2, 3, 4, 5, 6, 7] [9, 10] (by kernel_rfl) (by kernel_rfl)
            simp only [AllT, AllF] at E
            clear hdi hdep hcl
            have h := hw.out
            rw [show d 7 = true by simp [E], show d 8 = false by simp [E], show d 10 = false by simp [E]] at h
            obtain ⟨v1, w', hr, h'⟩ := h.push HO.out (by omega) HSZ.out.2.2.2
            refine Eq.mpr (if_pos rfl) ?_
            refine operW_append (.tmp 33) (.tmp 39) 24 rfl v (.slice (some ⟨ib, 0, none⟩) 1 1) (by simp [Act.eval, upd, E]) (by simp [Act.eval, upd, E]) v1 w' hr ?_
            exact hK _ _ ⟨ib, v1, by simp [Act.put, upd, E], by rw [show upd d 8 7 = true by simp [upd, E], show upd d 8 8 = true by simp [upd, E], show upd d 8 10 = false by simp [upd, E]]; exact h'⟩
          · rintro d a W hdi hdep hcl ⟨ib, v', rfl, hw⟩ K hK
            have E := hcl.facts 9 hdi rfl hdep [0, 1, 2, 3, 4, 5, 6, 7, 8] [10] (by kernel_rfl) (by kernel_rfl)
            simp only [AllT, AllF] at E
            clear hdi hdep hcl
            go_simp
            refine hK _ _ ⟨ib, v', by simp [upd, E], ?_⟩
            first | exact hw | simpa [upd, E] using hw
          · rintro d a W hdi hdep hcl ⟨ib, v', rfl, hw⟩ K hK
            have E := hcl.facts 10 hdi rfl hdep [0, 1, 2, 3, 4, 5, 6, 7, 8, 9] [] (by kernel_rfl) (by kernel_rfl)
            simp only [AllT, AllF] at E
            clear hdi hdep hcl
            have h := hw.out
            rw [show d 7 = true by simp [E], show d 8 = true by simp [E], show d 10 = false by simp [E]] at h
            have hlt : g2 < W.heap.size := Nat.lt_of_lt_of_le HSZ.out.2.2.1 (h.z rfl).2.size
            have hblk := h.blk HO.out h2X HSZ.out.2.2.1 HC.out
            have o3 : W.cell? ⟨g2, 3, none⟩ = some v := by rw [cell_of_row W _ _ _ _ _ hblk]; rfl
            have fo : ∀ o, W.frozen? ⟨g2, o, none⟩ = false := fun o => frozen_of_row W _ o _ _ hblk
            have HH := Lib.hid (h.store HO.out h2X HSZ.out.2.2.1 HC.out)
            clear hblk hlt
            obtain ⟨vq, vc, rfl⟩ := own_form (h.z rfl).1
            clear h
            go_simp
            refine hK _ _ ⟨ib, .slice vq (j + 1) vc, by simp [upd, E], ?_⟩
            rw [show upd d 10 7 = true by simp [upd, E], show upd d 10 8 = true by simp [upd, E], show upd d 10 10 = true by simp [upd, E]]
            exact HH.out
        · rintro d a W hall ⟨ib, v', rfl, hw⟩
          have E := AllT.all hall [0, 1, 2, 3, 4, 5, 6, 7, 8, 9, 10] (by kernel_rfl)
          simp only [AllT] at E
          simp only [E, cond_true] at hw ⊢
          clear E hall
          have h := hw.out
          have HC1 := Lib.hid (h.y rfl)
          have HO1 := Lib.hid (h.z rfl).1
          have HD1 : Hid (Diff (fun x => x = g2) X W) := HD.out.trans' (h.z rfl).2 (fun x hx e => e.elim (fun e => e.2) (fun e => by have := (HO.out.lt x e.symm).1; omega))
          have HT1 : Hid (OrdI X.heap.size w1 b W v' (j + 1)) := by
            refine ⟨_, HO1.out, fun i hi => ?_⟩
            have hl : ss.length = j := by have := HO.out.1; omega
            by_cases e : i = j
            · subst e; rw [HK.out]; exact ⟨q, c, by rw [List.getElem?_append_right (by omega), hl, Nat.sub_self]; rfl, HSIT.out⟩
            · obtain ⟨q1, c1, h1, h2⟩ := HALL.out i (by omega)
              exact ⟨q1, c1, by rw [List.getElem?_append_left (by omega)]; exact h1, h2⟩
          obtain ⟨vq, vc, rfl⟩ := own_form (h.z rfl).1
          clear hw h
          have hwk : IntKind.i64.wrap ((k : Int) - 1) = (k : Int) - 1 := IntWalk.i64_in _ (by omega)
          go_wp2_with fail
          exact ⟨⟨j + 1, _, by omega, by have := HK2.out; congr 1; omega, HT1.out, HC1.out, HD1.out⟩, by have := HK2.out; simp only [intOf]; omega⟩
      · have hjn2 : j = b.n := by omega
        subst hjn2
        have hneg : ((b.n : Int) - 1 - (b.n : Nat)) = -1 := by omega
        obtain ⟨vq, vc, rfl⟩ : ∃ q c, v = .slice q b.n c := by obtain ⟨ss, h1, -⟩ := HT.out; exact own_form h1
        rw [hneg]
        clear hneg
        have hp : Pure w1 wr := HPX.out.trans' HD.out (fun x hx e => by have := HG2.out; have e' : x = g2 := e; omega)
        obtain ⟨w2, rfl⟩ : ∃ v, v = wr := ⟨_, rfl⟩
        have hP2 : Hid (Pure w w2) := hP1.out.trans hp
        have HA2 := Lib.hid (HA1.out.pure hp)
        have HB2 := Lib.hid (HB1.out.to hp)
        have HG2' := Lib.hid (HG1.out.to hp)
        have HR2 := Lib.hid (HT.out.book hp)
        have HX2' : Hid (BoxB g2 b.rev vq vc w2) := BoxB.of (T := 26) HC.out
        clear hp HG2 HX2
        have HG2 := Lib.hid HG2'.out
        have HX2 := Lib.hid HX2'.out
        clear HG2' HX2' hP1 HA1 HB1 HG1 HT HC HD HC0 a3 HAX HBX HGX HPw HPX
        have hck := HCK.out
        have HCR := Lib.hid (valid_check (rev_valid hv))
        have HSR := Lib.hid (rev_small HS.out)
        obtain ⟨hrn, hrs⟩ := rev_spans b hv N HLN.out
        have HRN := Lib.hid hrn
        have HRS := Lib.hid hrs
        obtain ⟨M, hM⟩ : ∃ M, (wrongTo b N b.total).length = M := ⟨_, rfl⟩
        have HM := Lib.hid hM
        have HMR : Hid ((wrongTo b.rev N b.rev.total).length = M) := (rev_wrong b hv N HLN.out).trans hM
        clear hrn hrs hM hck
        obtain ⟨za0, za1, za2, za3, zal⟩ := HA2.out
        obtain ⟨zx0, zx1, zx2, zx3, zxl⟩ := HX2.out
        cases hno : noneB b.es with
        | true =>
          have HNO := Lib.hid hno
          have HNR : Hid (noneB b.rev.es = true) := HRN.out.trans hno
          clear hno
          go_wp2_with fail
          refine (spans_any w2 b p cap HS.out HCK.out HB2.out HG2.out).mono ?_
          rintro e w3 ⟨hq, hp⟩
          have he := hq.one HNO.out
          subst he
          clear hq
          have hP3 : Hid (Pure w w3) := hP2.out.trans hp
          have HA3 := Lib.hid (HA2.out.pure hp)
          have HX3 := Lib.hid (HX2.out.pure hp)
          have HB3 := Lib.hid (HB2.out.to hp)
          have HG3 := Lib.hid (HG2.out.to hp)
          have HR3 := Lib.hid (HR2.out.to hp)
          clear hp hP2 HA2 HX2 za0 za1 za2 za3 zal zx0 zx1 zx2 zx3 zxl HB2 HG2 HR2
          obtain ⟨za0, za1, za2, za3, zal⟩ := HA3.out
          obtain ⟨zx0, zx1, zx2, zx3, zxl⟩ := HX3.out
          go_wp2_with fail
          refine (spans_any w3 b.rev vq vc HSR.out HCR.out HR3.out HG3.out).mono ?_
          rintro e w4 ⟨hq, hp⟩
          have he := hq.one HNR.out
          subst he
          clear hq
          have hP4 : Hid (Pure w w4) := hP3.out.trans hp
          have HA4 := Lib.hid (HA3.out.pure hp)
          have HX4 := Lib.hid (HX3.out.pure hp)
          have HB4 := Lib.hid (HB3.out.to hp)
          have HG4 := Lib.hid (HG3.out.to hp)
          have HR4 := Lib.hid (HR3.out.to hp)
          clear hp hP3 HA3 HX3 za0 za1 za2 za3 zal zx0 zx1 zx2 zx3 zxl HB3 HG3 HR3
          obtain ⟨za0, za1, za2, za3, zal⟩ := HA4.out
          obtain ⟨zx0, zx1, zx2, zx3, zxl⟩ := HX4.out
          go_wp2_with fail
          refine (wrong_ok w4 b p cap N HS.out HCK.out HLN.out HB4.out HG4.out).mono ?_
          rintro e w5 ⟨hq, hp⟩
          obtain ⟨wq, wc, rfl, -⟩ := hq
          rw [HM.out]
          have hP5 : Hid (Pure w w5) := hP4.out.trans hp
          have HA5 := Lib.hid (HA4.out.pure hp)
          have HX5 := Lib.hid (HX4.out.pure hp)
          have HB5 := Lib.hid (HB4.out.to hp)
          have HG5 := Lib.hid (HG4.out.to hp)
          have HR5 := Lib.hid (HR4.out.to hp)
          clear hp hP4 HA4 HX4 za0 za1 za2 za3 zal zx0 zx1 zx2 zx3 zxl HB4 HG4 HR4
          obtain ⟨za0, za1, za2, za3, zal⟩ := HA5.out
          obtain ⟨zx0, zx1, zx2, zx3, zxl⟩ := HX5.out
          go_wp2_with fail
          refine (wrong_ok w5 b.rev vq vc N HSR.out HCR.out HLN.out HR5.out HG5.out).mono ?_
          rintro e w6 ⟨hq, hp⟩
          obtain ⟨wq2, wc2, rfl, -⟩ := hq
          rw [HMR.out]
          have hP6 : Hid (Pure w w6) := hP5.out.trans hp
          have HA6 := Lib.hid (HA5.out.pure hp)
          have HX6 := Lib.hid (HX5.out.pure hp)
          have HB6 := Lib.hid (HB5.out.to hp)
          have HG6 := Lib.hid (HG5.out.to hp)
          have HR6 := Lib.hid (HR5.out.to hp)
          clear hp hP5 HA5 HX5 za0 za1 za2 za3 zal zx0 zx1 zx2 zx3 zxl HB5 HG5 HR5
          obtain ⟨za0, za1, za2, za3, zal⟩ := HA6.out
          obtain ⟨zx0, zx1, zx2, zx3, zxl⟩ := HX6.out
          go_wp2_with fail
          refine (within_true w6 0 none none 0 0 (fun _ => 0) (fun _ => 0) (fun _ => 0) (fun _ => 0) (by omega) (fun i hi => by omega) (fun i hi => by omega) (fun i hi => by omega)).mono ?_
          rintro e w7 ⟨rfl, hp⟩
          have hP7 : Hid (Pure w w7) := hP6.out.trans hp
          have HA7 := Lib.hid (HA6.out.pure hp)
          have HX7 := Lib.hid (HX6.out.pure hp)
          have HB7 := Lib.hid (HB6.out.to hp)
          have HG7 := Lib.hid (HG6.out.to hp)
          have HR7 := Lib.hid (HR6.out.to hp)
          clear hp hP6 HA6 HX6 za0 za1 za2 za3 zal zx0 zx1 zx2 zx3 zxl HB6 HG6 HR6
          obtain ⟨za0, za1, za2, za3, zal⟩ := HA7.out
          obtain ⟨zx0, zx1, zx2, zx3, zxl⟩ := HX7.out
          go_wp2_with fail
          refine (within_true w7 0 none none 0 0 (fun _ => 0) (fun _ => 0) (fun _ => 0) (fun _ => 0) (by omega) (fun i hi => by omega) (fun i hi => by omega) (fun i hi => by omega)).mono ?_
          rintro e w8 ⟨rfl, hp⟩
          have hP8 : Hid (Pure w w8) := hP7.out.trans hp
          have HA8 := Lib.hid (HA7.out.pure hp)
          have HX8 := Lib.hid (HX7.out.pure hp)
          have HB8 := Lib.hid (HB7.out.to hp)
          have HG8 := Lib.hid (HG7.out.to hp)
          have HR8 := Lib.hid (HR7.out.to hp)
          clear hp hP7 HA7 HX7 za0 za1 za2 za3 zal zx0 zx1 zx2 zx3 zxl HB7 HG7 HR7
          obtain ⟨za0, za1, za2, za3, zal⟩ := HA8.out
          obtain ⟨zx0, zx1, zx2, zx3, zxl⟩ := HX8.out
          go_wp2_with fail
          refine (Works_any w8 HG8.out).mono ?_
          rintro e w9 ⟨rfl, hp⟩
          have hP9 : Hid (Pure w w9) := hP8.out.trans hp
          have HA9 := Lib.hid (HA8.out.pure hp)
          have HX9 := Lib.hid (HX8.out.pure hp)
          have HB9 := Lib.hid (HB8.out.to hp)
          have HG9 := Lib.hid (HG8.out.to hp)
          have HR9 := Lib.hid (HR8.out.to hp)
          clear hp hP8 HA8 HX8 za0 za1 za2 za3 zal zx0 zx1 zx2 zx3 zxl HB8 HG8 HR8
          obtain ⟨za0, za1, za2, za3, zal⟩ := HA9.out
          obtain ⟨zx0, zx1, zx2, zx3, zxl⟩ := HX9.out
          go_wp2_with fail
          exact bodyPost_ret (v := .bool true) (by simp [results, Tryd.results16, go_sem]) rfl ⟨rfl, hP9.out⟩
        | false =>
          have HNO := Lib.hid hno
          have HNR : Hid (noneB b.rev.es = false) := HRN.out.trans hno
          clear hno
          go_wp2_with fail
          refine (spans_any w2 b p cap HS.out HCK.out HB2.out HG2.out).mono ?_
          rintro e w3 ⟨hq, hp⟩
          obtain ⟨sq, sc, rfl, hsp⟩ := hq.two HNO.out HLN.out
          clear hq
          have hP3 : Hid (Pure w w3) := hP2.out.trans hp
          have HA3 := Lib.hid (HA2.out.pure hp)
          have HX3 := Lib.hid (HX2.out.pure hp)
          have HB3 := Lib.hid (HB2.out.to hp)
          have HG3 := Lib.hid (HG2.out.to hp)
          have HR3 := Lib.hid (HR2.out.to hp)
          have HP13 := Lib.hid (hsp.rg)
          clear hp hP2 HA2 HX2 za0 za1 za2 za3 zal zx0 zx1 zx2 zx3 zxl HB2 HG2 HR2
          obtain ⟨za0, za1, za2, za3, zal⟩ := HA3.out
          obtain ⟨zx0, zx1, zx2, zx3, zxl⟩ := HX3.out
          clear hsp
          go_wp2_with fail
          refine (spans_any w3 b.rev vq vc HSR.out HCR.out HR3.out HG3.out).mono ?_
          rintro e w4 ⟨hq, hp⟩
          obtain ⟨rq, rc, rfl, hsp⟩ := hq.two HNR.out HLN.out
          clear hq
          have hP4 : Hid (Pure w w4) := hP3.out.trans hp
          have HA4 := Lib.hid (HA3.out.pure hp)
          have HX4 := Lib.hid (HX3.out.pure hp)
          have HB4 := Lib.hid (HB3.out.to hp)
          have HG4 := Lib.hid (HG3.out.to hp)
          have HR4 := Lib.hid (HR3.out.to hp)
          have HP14 := Lib.hid (HP13.out.to hp)
          have HP24 := Lib.hid (hsp.rg)
          clear hp hP3 HA3 HX3 za0 za1 za2 za3 zal zx0 zx1 zx2 zx3 zxl HB3 HG3 HR3 HP13
          obtain ⟨za0, za1, za2, za3, zal⟩ := HA4.out
          obtain ⟨zx0, zx1, zx2, zx3, zxl⟩ := HX4.out
          clear hsp
          go_wp2_with fail
          refine (wrong_ok w4 b p cap N HS.out HCK.out HLN.out HB4.out HG4.out).mono ?_
          rintro e w5 ⟨hq, hp⟩
          obtain ⟨wq, wc, rfl, -⟩ := hq
          rw [HM.out]
          have hP5 : Hid (Pure w w5) := hP4.out.trans hp
          have HA5 := Lib.hid (HA4.out.pure hp)
          have HX5 := Lib.hid (HX4.out.pure hp)
          have HB5 := Lib.hid (HB4.out.to hp)
          have HG5 := Lib.hid (HG4.out.to hp)
          have HR5 := Lib.hid (HR4.out.to hp)
          have HP15 := Lib.hid (HP14.out.to hp)
          have HP25 := Lib.hid (HP24.out.to hp)
          clear hp hP4 HA4 HX4 za0 za1 za2 za3 zal zx0 zx1 zx2 zx3 zxl HB4 HG4 HR4 HP14 HP24
          obtain ⟨za0, za1, za2, za3, zal⟩ := HA5.out
          obtain ⟨zx0, zx1, zx2, zx3, zxl⟩ := HX5.out
          go_wp2_with fail
          refine (wrong_ok w5 b.rev vq vc N HSR.out HCR.out HLN.out HR5.out HG5.out).mono ?_
          rintro e w6 ⟨hq, hp⟩
          obtain ⟨wq2, wc2, rfl, -⟩ := hq
          rw [HMR.out]
          have hP6 : Hid (Pure w w6) := hP5.out.trans hp
          have HA6 := Lib.hid (HA5.out.pure hp)
          have HX6 := Lib.hid (HX5.out.pure hp)
          have HB6 := Lib.hid (HB5.out.to hp)
          have HG6 := Lib.hid (HG5.out.to hp)
          have HR6 := Lib.hid (HR5.out.to hp)
          have HP16 := Lib.hid (HP15.out.to hp)
          have HP26 := Lib.hid (HP25.out.to hp)
          clear hp hP5 HA5 HX5 za0 za1 za2 za3 zal zx0 zx1 zx2 zx3 zxl HB5 HG5 HR5 HP15 HP25
          obtain ⟨za0, za1, za2, za3, zal⟩ := HA6.out
          obtain ⟨zx0, zx1, zx2, zx3, zxl⟩ := HX6.out
          go_wp2_with fail
          refine (within_true w6 N sq rq sc rc _ _ _ _ (by omega) HP16.out HP26.out (fun i hi => by have := HRS.out HNO.out i hi; omega)).mono ?_
          rintro e w7 ⟨rfl, hp⟩
          have hP7 : Hid (Pure w w7) := hP6.out.trans hp
          have HA7 := Lib.hid (HA6.out.pure hp)
          have HX7 := Lib.hid (HX6.out.pure hp)
          have HB7 := Lib.hid (HB6.out.to hp)
          have HG7 := Lib.hid (HG6.out.to hp)
          have HR7 := Lib.hid (HR6.out.to hp)
          have HP17 := Lib.hid (HP16.out.to hp)
          have HP27 := Lib.hid (HP26.out.to hp)
          clear hp hP6 HA6 HX6 za0 za1 za2 za3 zal zx0 zx1 zx2 zx3 zxl HB6 HG6 HR6 HP16 HP26
          obtain ⟨za0, za1, za2, za3, zal⟩ := HA7.out
          obtain ⟨zx0, zx1, zx2, zx3, zxl⟩ := HX7.out
          go_wp2_with fail
          refine (within_true w7 N rq sq rc sc _ _ _ _ (by omega) HP27.out HP17.out (fun i hi => by have := HRS.out HNO.out i hi; omega)).mono ?_
          rintro e w8 ⟨rfl, hp⟩
          have hP8 : Hid (Pure w w8) := hP7.out.trans hp
          have HA8 := Lib.hid (HA7.out.pure hp)
          have HX8 := Lib.hid (HX7.out.pure hp)
          have HB8 := Lib.hid (HB7.out.to hp)
          have HG8 := Lib.hid (HG7.out.to hp)
          have HR8 := Lib.hid (HR7.out.to hp)
          have HP18 := Lib.hid (HP17.out.to hp)
          have HP28 := Lib.hid (HP27.out.to hp)
          clear hp hP7 HA7 HX7 za0 za1 za2 za3 zal zx0 zx1 zx2 zx3 zxl HB7 HG7 HR7 HP17 HP27
          obtain ⟨za0, za1, za2, za3, zal⟩ := HA8.out
          obtain ⟨zx0, zx1, zx2, zx3, zxl⟩ := HX8.out
          go_wp2_with fail
          refine (Works_any w8 HG8.out).mono ?_
          rintro e w9 ⟨rfl, hp⟩
          have hP9 : Hid (Pure w w9) := hP8.out.trans hp
          have HA9 := Lib.hid (HA8.out.pure hp)
          have HX9 := Lib.hid (HX8.out.pure hp)
          have HB9 := Lib.hid (HB8.out.to hp)
          have HG9 := Lib.hid (HG8.out.to hp)
          have HR9 := Lib.hid (HR8.out.to hp)
          have HP19 := Lib.hid (HP18.out.to hp)
          have HP29 := Lib.hid (HP28.out.to hp)
          clear hp hP8 HA8 HX8 za0 za1 za2 za3 zal zx0 zx1 zx2 zx3 zxl HB8 HG8 HR8 HP18 HP28
          obtain ⟨za0, za1, za2, za3, zal⟩ := HA9.out
          obtain ⟨zx0, zx1, zx2, zx3, zxl⟩ := HX9.out
          go_wp2_with fail
          exact bodyPost_ret (v := .bool true) (by simp [results, Tryd.results16, go_sem]) rfl ⟨rfl, hP9.out⟩
end Go.Proofs.YtmedkmbfggphdaaDoor
