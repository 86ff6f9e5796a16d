/- Walk of the reference's CheapestOf. -/
import Derived.Test.YtgpfmnjianflaaaDoorD3
set_option linter.unusedSimpArgs false
set_option linter.unusedVariables false
set_option linter.constructorNameAsVariable false
namespace Go.Proofs.YtgpfmnjianflaaaDoor
open Go.RowKit

/-- Lots within the limits, as many as may be. -/
def LT.In (L : LT) : Prop := ∀ i, i < L.n → (0 ≤ L.s i ∧ L.s i ≤ 100) ∧ 0 ≤ L.p i ∧ L.p i ≤ 1000
theorem LT.Ok.in {L : LT} (h : L.Ok) : L.In := fun i hi => ⟨⟨h.s0 i hi, h.s1 i hi⟩, h.p0 i hi, h.p1 i hi⟩
theorem pN_small {L : LT} (hL : L.In) {t : Int} {i k : Nat} (hi : i < L.n) (hk : k < L.n) (h1 : L.s i ≤ t) (h2 : t ≤ L.s k) : 0 ≤ L.pN i k t ∧ L.pN i k t ≤ 100000 ∧ L.pD i k ≤ 100 := by
  have a1 := hL i hi
  have a2 := hL k hk
  unfold LT.pN LT.pD
  split
  · have b1 := Int.mul_nonneg a1.2.1 (show 0 ≤ L.s k - t by omega)
    have b2 := Int.mul_nonneg a2.2.1 (show 0 ≤ t - L.s i by omega)
    have b3 := Int.mul_le_mul_of_nonneg_right a1.2.2 (show 0 ≤ L.s k - t by omega)
    have b4 := Int.mul_le_mul_of_nonneg_right a2.2.2 (show 0 ≤ t - L.s i by omega)
    omega
  · omega
theorem pairX_small {L : LT} (hL : L.In) {t : Int} {i k : Nat} (hi : i < L.n) (hk : k < L.n) (h1 : L.s i ≤ t) (h2 : t ≤ L.s k) : (0 ≤ (L.pairX t i k).1 ∧ (L.pairX t i k).1 ≤ 100000) ∧ 0 < (L.pairX t i k).2 ∧ (L.pairX t i k).2 ≤ 100 := by
  have hp := pD_pos L i k
  have r := red_le (L.pN i k t) hp
  have hpN := pN_small hL hi hk h1 h2
  have := redD_pos (a := L.pN i k t) hp
  have := r.2.1 hpN.1
  show (0 ≤ redN _ _ ∧ redN _ _ ≤ _) ∧ 0 < redD _ _ ∧ redD _ _ ≤ _
  omega
theorem PI.small {L : LT} (hL : L.In) {t : Int} {P : Nat → Nat → Prop} {b : Int × Int} (h : PI L t P b) : (0 ≤ b.1 ∧ b.1 ≤ 100000) ∧ 0 ≤ b.2 ∧ b.2 ≤ 100 := by
  rcases h with ⟨rfl, _⟩ | ⟨_, _, ⟨i, k, hi, hk, h1, h2, rfl⟩, _⟩
  · decide
  · have := pairX_small hL hi hk h1 h2
    omega
/-- Two new blocks of two cells, laid and stored in whatever order. -/
structure AB (V : World) (ga ha : Nat) (b8 b9 b10 b11 : Bool) (c d : Array Value) (W : World) : Prop where
  pure : Pure V W
  g : b8 = true → V.heap.size ≤ ga ∧ Blk ga 71 (bif b10 then c else #[.int .i64 0, .int .i64 0]) W
  h : b9 = true → V.heap.size ≤ ha ∧ Blk ha 71 (bif b11 then d else #[.int .i64 0, .int .i64 0]) W
  ne : b8 = true → b9 = true → ga ≠ ha
section
variable {V W : World} {ga ha : Nat} {b8 b9 b10 b11 : Bool} {c d : Array Value}
theorem AB.draw (V : World) (ga ha : Nat) (c d : Array Value) : AB V ga ha false false false false c d V.drew := ⟨(Diff.refl V).drew, fun h => (by cases h), fun h => (by cases h), fun h => (by cases h)⟩
theorem AB.alloc1 (x : AB V ga ha false b9 false b11 c d W) : AB V W.heap.size ha true b9 false b11 c d (W.alloc (.cells #[.int .i64 0, .int .i64 0] 71)) :=
  ⟨x.pure.alloc _, fun _ => ⟨x.pure.size, Blk.new _ _ _⟩, fun e => ⟨(x.h e).1, (x.h e).2.alloc _⟩, fun _ e he => by have := (x.h e).2.lt; omega⟩
theorem AB.alloc2 (x : AB V ga ha b8 false b10 false c d W) : AB V ga W.heap.size b8 true b10 false c d (W.alloc (.cells #[.int .i64 0, .int .i64 0] 71)) :=
  ⟨x.pure.alloc _, fun e => ⟨(x.g e).1, (x.g e).2.alloc _⟩, fun _ => ⟨x.pure.size, Blk.new _ _ _⟩, fun e _ he => by have := (x.g e).2.lt; omega⟩
theorem AB.set1 {u v : Value} (x : AB V ga ha true b9 false b11 #[u, v] d W) : AB V ga ha true b9 true b11 #[u, v] d ((W.setCell ⟨ga, 0, none⟩ u).setCell ⟨ga, 1, none⟩ v) :=
  ⟨x.pure.set2 (x.g rfl).1 u v, fun _ => ⟨(x.g rfl).1, (x.g rfl).2.set2 u v⟩, fun e => ⟨(x.h e).1, (x.h e).2.diff ((Diff.refl (O := fun k => k = ga) W).set2' rfl u v) (fun e2 => x.ne rfl e e2.symm)⟩, x.ne⟩
theorem AB.set2 {u v : Value} (x : AB V ga ha b8 true b10 false c #[u, v] W) : AB V ga ha b8 true b10 true c #[u, v] ((W.setCell ⟨ha, 0, none⟩ u).setCell ⟨ha, 1, none⟩ v) :=
  ⟨x.pure.set2 (x.h rfl).1 u v, fun e => ⟨(x.g e).1, (x.g e).2.diff ((Diff.refl (O := fun k => k = ha) W).set2' rfl u v) (fun e2 => x.ne e rfl e2)⟩, fun _ => ⟨(x.h rfl).1, (x.h rfl).2.set2 u v⟩, x.ne⟩
end
/-- What stands while the pairs are gone through: the best price so far lies at g. -/
structure CO (X : World) (g : Nat) (b : Int × Int) (wr : World) : Prop where
  diff : Diff (fun k => k = g) X wr
  blk : Blk g 29 #[.int .i64 b.1, .int .i64 b.2] wr
theorem CO.pure {X wr W : World} {g : Nat} {b : Int × Int} (h : CO X g b wr) (hp : Pure wr W) : CO X g b W := ⟨h.diff.trans (hp.mono fun _ _ h => h.elim), h.blk.to hp⟩
theorem CO.set {X wr : World} {g : Nat} {b : Int × Int} (h : CO X g b wr) (c : Int × Int) : CO X g c ((wr.setCell ⟨g, 0, none⟩ (.int .i64 c.1)).setCell ⟨g, 1, none⟩ (.int .i64 c.2)) := ⟨h.diff.set2' rfl _ _, h.blk.set2 _ _⟩
theorem CO.other {X wr : World} {g h : Nat} {b : Int × Int} (x : CO X g b wr) (hX : X.heap.size ≤ h) (hne : ¬ h = g) (u v : Value) : CO X g b ((wr.setCell ⟨h, 0, none⟩ u).setCell ⟨h, 1, none⟩ v) :=
  ⟨x.diff.set2 hX u v, x.blk.diff ((Diff.refl (O := fun k => k = h) wr).set2' rfl u v) (fun e => hne e.symm)⟩
set_option maxRecDepth 20000 in
set_option maxHeartbeats 4000000 in
theorem RCheapestOf_any (w : World) (L : LT) (p : Option Addr) (cap : Nat) (t : Int) (ht : 0 ≤ t ∧ t ≤ 100) (hL : L.In) (hn : L.n ≤ 1000) (hl : LotsAt w.heap.size w p L) :
    Calls Tryd.prog 69 #[.slice p L.n cap, .int .i64 t] w fun e w' => e = .returned (.tuple #[.agg #[.int .i64 (L.refC t).1, .int .i64 (L.refC t).2], .bool (hasB (L.refC t).1 (L.refC t).2)]) ∧ Pure w w' := by
  have hmx : Tryd.prog.follows .mixedOrders = true := by kernel_rfl
  have HL := Lib.hid hl
  have HI := Lib.hid hL
  have HT := Lib.hid ht
  clear hl hL ht
  go_enter Tryd.func69, Tryd.ntmps69
  go_wp2_with fail
  obtain ⟨X, hX⟩ : ∃ V : World, (w.alloc (.cells #[.int .i64 0, .int .i64 0] 29)).alloc (.cells #[.int .i64 0, .int .i64 0] 29) = V := ⟨_, rfl⟩
  have k4 : Blk w.heap.size 29 #[.int .i64 0, .int .i64 0] X := by rw [← hX]; exact (Blk.new _ _ _).alloc _
  have k6 : Blk (w.heap.size + 1) 29 #[.int .i64 0, .int .i64 0] X := by
    rw [← hX]
    have := Blk.new (w.alloc (.cells #[.int .i64 0, .int .i64 0] 29)) 29 #[.int .i64 0, .int .i64 0]
    rwa [World.size_alloc] at this
  have hP : Pure w X := by rw [← hX]; exact ((Diff.refl _).alloc _).alloc _
  obtain ⟨G, hG⟩ : ∃ G, w.heap.size + 1 = G := ⟨_, rfl⟩
  rw [hX, hG]
  rw [hG] at k6
  have HG : Hid (w.heap.size + 1 = G) := hG
  have HPX := Lib.hid hP
  have K4 := Lib.hid k4
  have HCO : Hid (CO X G pr0 X) := ⟨Diff.refl _, k6⟩
  have HLX := Lib.hid (HL.out.to hP)
  clear hX hG k4 k6 hP
  go_loopw [7, 8] (fun fd i wr => ∃ k : Nat, k ≤ L.n ∧ i = .int .i64 k ∧ fd = .bool (hasB (L.refTo t k).1 (L.refTo t k).2) ∧ Hid (CO X G (L.refTo t k) wr)) (fun _ i _ => L.n - (intOf i).toNat)
  case atStart => exact ⟨0, Nat.zero_le _, rfl, rfl, HCO.out⟩
  case round =>
    obtain ⟨i, hi, rfl, rfl, HC⟩ := hrel
    by_cases hin : i < L.n
    · have hii : (i : Int) < (L.n : Int) := by omega
      obtain ⟨b0, hb0⟩ : ∃ b, L.refTo t i = b := ⟨_, rfl⟩
      have HB0 := Lib.hid hb0
      rw [hb0] at HC ⊢
      clear hb0
      go_wp2_with fail
      go_loopw [7, 9] (fun fd jv wr => ∃ k : Nat, k ≤ L.n ∧ jv = .int .i64 k ∧ fd = .bool (hasB (L.rowX t i b0 k).1 (L.rowX t i b0 k).2) ∧ Hid (CO X G (L.rowX t i b0 k) wr)) (fun _ jv _ => L.n - (intOf jv).toNat)
      case atStart => exact ⟨0, Nat.zero_le _, rfl, rfl, HC.out⟩
      case round =>
        obtain ⟨k, hk, rfl, rfl, HC1⟩ := hrel
        rename World => wj
        by_cases hkn : k < L.n
        · have hki : (k : Int) < (L.n : Int) := by omega
          obtain ⟨bl, o, rfl, hb, s0, p0⟩ := HLX.out i hin
          obtain ⟨bl', o', he, -, s1, p1⟩ := HLX.out k hkn
          cases he
          have HPj : Hid (Pure w wj) := HPX.out.trans' HC1.out.diff (fun z hz e => by have e' : z = G := e; have := HG.out; omega)
          have hnG : ¬ bl = G := by
            obtain ⟨b2, o2, e2, h2, -⟩ := HL.out i hin
            cases e2
            have := HG.out; omega
          have d0 := (HC1.out.diff.cell (p := ⟨bl, o + i * 2, none⟩) hb hnG).trans s0
          have d1 := (HC1.out.diff.cell (p := ⟨bl, o + i * 2 + 1, none⟩) hb hnG).trans p0
          have d2 := (HC1.out.diff.cell (p := ⟨bl, o + k * 2, none⟩) hb hnG).trans s1
          have d3 := (HC1.out.diff.cell (p := ⟨bl, o + k * 2 + 1, none⟩) hb hnG).trans p1
          have lb := Nat.lt_of_lt_of_le hb HC1.out.diff.size
          obtain ⟨b1, hb1⟩ : ∃ b, L.rowX t i b0 k = b := ⟨_, rfl⟩
          have HB1 := Lib.hid hb1
          rw [hb1] at HC1 ⊢
          clear hb1 s0 p0 s1 p1
          go_wp2_with fail
          refine reg_invW (fun d a W => ∃ ga ha : Nat, a = { tmps := #[Value.slice (some { block := bl, off := o }) L.n cap, Value.int IntKind.i64 t, undef, undef, Value.pointer (some { block := w.heap.size, off := 0 }), Value.bool false, Value.pointer (some { block := G, off := 0 }), Value.bool (hasB b1.fst b1.snd), Value.int IntKind.i64 (i : Int), Value.int IntKind.i64 (k : Int), (bif d 8 then Value.pointer (some { block := ga, off := 0 }) else u10), (bif d 9 then Value.pointer (some { block := ha, off := 0 }) else u11), u12, Value.agg #[Value.int IntKind.i64 0, Value.int IntKind.i64 0], Value.int IntKind.i64 (i : Int), Value.slice (some { block := bl, off := o }) L.n cap, Value.int IntKind.i64 (L.n : Int), Value.bool true, u18, u19, Value.int IntKind.i64 (k : Int), Value.slice (some { block := bl, off := o }) L.n cap, Value.int IntKind.i64 (L.n : Int), Value.bool true, u24, u25, (bif d 0 then Value.slice (some { block := bl, off := o }) L.n cap else u26), (bif d 1 then Value.int IntKind.i64 ((i : Nat)) else u27), (bif d 2 then Value.pointer (some { block := bl, off := o + i * 2 }) else u28), (bif d 3 then Value.agg #[Value.int IntKind.i64 (L.s i), Value.int IntKind.i64 (L.p i)] else u29), (bif d 4 then Value.slice (some { block := bl, off := o }) L.n cap else u30), (bif d 5 then Value.int IntKind.i64 ((k : Nat)) else u31), (bif d 6 then Value.pointer (some { block := bl, off := o + k * 2 }) else u32), (bif d 7 then Value.agg #[Value.int IntKind.i64 (L.s k), Value.int IntKind.i64 (L.p k)] else u33), u34, u35, u36, u37, u38, u39, u40, u41, u42, u43, u44, u45, u46, u47, u48, u49, u50, u51, u52, u53, u54, u55, u56, u57, u58, u59, u60, u61, u62, u63, u64, u65, u66, u67, u68, u69, u70, u71, u72, u73, u74, u75, u76, u77, u78, u79, u80, u81, u82, u83, u84, u85, u86, u87, u88, undef, undef], defers := [] } ∧ AB wj ga ha (d 8) (d 9) (d 10) (d 11) #[Value.int IntKind.i64 (L.s i), Value.int IntKind.i64 (L.p i)] #[Value.int IntKind.i64 (L.s k), Value.int IntKind.i64 (L.p k)] W) hmx (by kernel_rfl) ?_ ?_ ?_
          · exact ⟨0, 0, rfl, AB.draw _ _ _ _ _⟩
          · refine ⟨?_, ?_, ?_, ?_, ?_, ?_, ?_, ?_, ?_, ?_, ?_, ?_, trivial⟩
            · rintro d a W hdi hdep hcl ⟨ga, ha, rfl, hw⟩ K hK
              have E := hcl.facts 0 hdi rfl hdep [] [2, 3, 10, 11] (by kernel_rfl) (by kernel_rfl)
              simp only [AllT, AllF] at E
              clear hdi hdep hcl
              go_simp
              exact hK _ _ ⟨ga, ha, by simp [upd, E], by simpa [upd, E] using hw⟩
            · rintro d a W hdi hdep hcl ⟨ga, ha, rfl, hw⟩ K hK
              have E := hcl.facts 1 hdi rfl hdep [] [2, 3, 10, 11] (by kernel_rfl) (by kernel_rfl)
              simp only [AllT, AllF] at E
              clear hdi hdep hcl
              go_simp
              exact hK _ _ ⟨ga, ha, by simp [upd, E], by simpa [upd, E] using hw⟩
            · rintro d a W hdi hdep hcl ⟨ga, ha, rfl, hw⟩ K hK
              have E := hcl.facts 2 hdi rfl hdep [0, 1] [3, 10, 11] (by kernel_rfl) (by kernel_rfl)
              simp only [AllT, AllF] at E
              clear hdi hdep hcl
              go_simp
              exact hK _ _ ⟨ga, ha, by simp [upd, E], by simpa [upd, E] using hw⟩
            · rintro d a W hdi hdep hcl ⟨ga, ha, rfl, hw⟩ K hK
              have E := hcl.facts 3 hdi rfl hdep [0, 1, 2] [10, 11] (by kernel_rfl) (by kernel_rfl)
              simp only [AllT, AllF] at E
              clear hdi hdep hcl
              have z1 := ((pcell hw.pure).1 _ _ lb).trans d0
              have z2 := ((pcell hw.pure).1 _ _ lb).trans d1
              go_simp
              exact hK _ _ ⟨ga, ha, by simp [upd, E], by simpa [upd, E] using hw⟩
            · rintro d a W hdi hdep hcl ⟨ga, ha, rfl, hw⟩ K hK
              have E := hcl.facts 4 hdi rfl hdep [] [6, 7, 11] (by kernel_rfl) (by kernel_rfl)
              simp only [AllT, AllF] at E
              clear hdi hdep hcl
              go_simp
              exact hK _ _ ⟨ga, ha, by simp [upd, E], by simpa [upd, E] using hw⟩
            · rintro d a W hdi hdep hcl ⟨ga, ha, rfl, hw⟩ K hK
              have E := hcl.facts 5 hdi rfl hdep [] [6, 7, 11] (by kernel_rfl) (by kernel_rfl)
              simp only [AllT, AllF] at E
              clear hdi hdep hcl
              go_simp
              exact hK _ _ ⟨ga, ha, by simp [upd, E], by simpa [upd, E] using hw⟩
            · rintro d a W hdi hdep hcl ⟨ga, ha, rfl, hw⟩ K hK
              have E := hcl.facts 6 hdi rfl hdep [4, 5] [7, 11] (by kernel_rfl) (by kernel_rfl)
              simp only [AllT, AllF] at E
              clear hdi hdep hcl
              go_simp
              exact hK _ _ ⟨ga, ha, by simp [upd, E], by simpa [upd, E] using hw⟩
            · rintro d a W hdi hdep hcl ⟨ga, ha, rfl, hw⟩ K hK
              have E := hcl.facts 7 hdi rfl hdep [4, 5, 6] [11] (by kernel_rfl) (by kernel_rfl)
              simp only [AllT, AllF] at E
              clear hdi hdep hcl
              have z1 := ((pcell hw.pure).1 _ _ lb).trans d2
              have z2 := ((pcell hw.pure).1 _ _ lb).trans d3
              go_simp
              exact hK _ _ ⟨ga, ha, by simp [upd, E], by simpa [upd, E] using hw⟩
            · rintro d a W hdi hdep hcl ⟨ga, ha, rfl, hw⟩ K hK
              have E := hcl.facts 8 hdi rfl hdep [] [10, 11] (by kernel_rfl) (by kernel_rfl)
              simp only [AllT, AllF] at E
              clear hdi hdep hcl
              simp only [E] at hw
              go_simp
              exact hK _ _ ⟨W.heap.size, ha, by simp [upd, E], by simpa [upd, E] using hw.alloc1⟩
            · rintro d a W hdi hdep hcl ⟨ga, ha, rfl, hw⟩ K hK
              have E := hcl.facts 9 hdi rfl hdep [] [10, 11] (by kernel_rfl) (by kernel_rfl)
              simp only [AllT, AllF] at E
              clear hdi hdep hcl
              simp only [E] at hw
              go_simp
              exact hK _ _ ⟨ga, W.heap.size, by simp [upd, E], by simpa [upd, E] using hw.alloc2⟩
            · rintro d a W hdi hdep hcl ⟨ga, ha, rfl, hw⟩ K hK
              have E := hcl.facts 10 hdi rfl hdep [0, 1, 2, 3, 8, 9] [11] (by kernel_rfl) (by kernel_rfl)
              simp only [AllT, AllF] at E
              clear hdi hdep hcl
              simp only [E] at hw
              have z := (hw.g rfl).2
              have z0 := z.at 0
              have z1 := z.at 1
              have fz := fun o => z.fz o
              have zl := z.lt
              simp only [cond_false] at z0 z1
              go_simp
              exact hK _ _ ⟨ga, ha, by simp [upd, E], by simpa [upd, E] using hw.set1⟩
            · rintro d a W hdi hdep hcl ⟨ga, ha, rfl, hw⟩ K hK
              have E := hcl.facts 11 hdi rfl hdep [0, 1, 2, 3, 4, 5, 6, 7, 8, 9, 10] [] (by kernel_rfl) (by kernel_rfl)
              simp only [AllT, AllF] at E
              clear hdi hdep hcl
              simp only [E] at hw
              have z := (hw.h rfl).2
              have z0 := z.at 0
              have z1 := z.at 1
              have fz := fun o => z.fz o
              have zl := z.lt
              simp only [cond_false] at z0 z1
              go_simp
              exact hK _ _ ⟨ga, ha, by simp [upd, E], by simpa [upd, E] using hw.set2⟩
          · rintro d a W hall ⟨ga, ha, rfl, hw⟩
            have E := AllT.all hall [0, 1, 2, 3, 4, 5, 6, 7, 8, 9, 10, 11] (by kernel_rfl)
            simp only [AllT] at E
            simp only [E, cond_true] at hw ⊢
            clear E hall
            have hpW := hw.pure
            have kA := (hw.g rfl).2
            have kB := (hw.h rfl).2
            simp only [cond_true] at kA kB
            have KA := Lib.hid kA
            have KB := Lib.hid kB
            have HCw := Lib.hid (HC1.out.pure hpW)
            have HPw := Lib.hid (HPj.out.trans hpW)
            clear hw hpW kA kB d0 d1 d2 d3 lb
            have a0 := KA.out.at 0
            have a1 := KA.out.at 1
            have al := KA.out.lt
            have f0 := KB.out.at 0
            have f1 := KB.out.at 1
            have fl := KB.out.lt
            by_cases h1 : t < L.s i
            · have HST : Hid (L.stepX t i k b1 = b1) := if_neg (by unfold LT.canB; simp; omega)
              go_wp2
              go_roundw
              case rel => exact ⟨k + 1, by omega, by go_num, by show _ = Value.bool (hasB (L.stepX t i k (L.rowX t i b0 k)).1 (L.stepX t i k (L.rowX t i b0 k)).2); rw [HB1.out, HST.out], by show CO X G (L.stepX t i k (L.rowX t i b0 k)) _; rw [HB1.out, HST.out]; exact HCw.out⟩
              case measure => simp [intOf]; omega
            by_cases h2 : L.s k < t
            · have HST : Hid (L.stepX t i k b1 = b1) := if_neg (by unfold LT.canB; simp; omega)
              go_wp2
              go_roundw
              case rel => exact ⟨k + 1, by omega, by go_num, by show _ = Value.bool (hasB (L.stepX t i k (L.rowX t i b0 k)).1 (L.stepX t i k (L.rowX t i b0 k)).2); rw [HB1.out, HST.out], by show CO X G (L.stepX t i k (L.rowX t i b0 k)) _; rw [HB1.out, HST.out]; exact HCw.out⟩
              case measure => simp [intOf]; omega
            have HCAN : Hid (L.canB t i k = true) := by show _ = _; unfold LT.canB; simp; omega
            have hbi := HI.out i hin
            have hbk := HI.out k hkn
            have hxs := pairX_small HI.out hin hkn (show L.s i ≤ t by omega) (show t ≤ L.s k by omega)
            have hbs : (0 ≤ b1.1 ∧ b1.1 ≤ 100000) ∧ 0 ≤ b1.2 ∧ b1.2 ≤ 100 := by
              rw [← HB1.out, ← HB0.out]
              exact (PI.row hin (PI.all i (by omega)) k (by omega)).small HI.out
            have HBB : Hid ((-1000000000 ≤ b1.1 ∧ b1.1 ≤ 1000000000) ∧ -1000000000 ≤ b1.2 ∧ b1.2 ≤ 1000000000) := ⟨⟨by omega, by omega⟩, by omega, by omega⟩
            have HXS := Lib.hid hxs
            clear hxs hbs
            go_wp2_with fail
            refine (RBy_any W (L.p i) 1 ⟨by omega, by omega⟩ ⟨by omega, by omega⟩).mono ?_
            rintro e W1 ⟨rfl, hp1⟩
            have KA1 := Lib.hid (KA.out.to hp1)
            have KB1 := Lib.hid (KB.out.to hp1)
            have HC2 := Lib.hid (HCw.out.pure hp1)
            clear hp1 a0 a1 al f0 f1 fl
            have a0 := KA1.out.at 0
            have a1 := KA1.out.at 1
            have al := KA1.out.lt
            have f0 := KB1.out.at 0
            have f1 := KB1.out.at 1
            have fl := KB1.out.lt
            obtain ⟨ya, hya⟩ : ∃ x, redN (L.p i) 1 = x := ⟨_, rfl⟩
            obtain ⟨yb, hyb⟩ : ∃ x, redD (L.p i) 1 = x := ⟨_, rfl⟩
            have HY : Hid (redN (L.p i) 1 = ya ∧ redD (L.p i) 1 = yb) := ⟨hya, hyb⟩
            rw [hya, hyb]
            clear hya hyb
            by_cases h3 : L.s i < L.s k
            · have m1 := mul_bnd (a := L.p i) (b := L.s k - t) 1000 100 (by omega) (by omega) (by omega) (by omega)
              have m2 := mul_bnd (a := L.p k) (b := t - L.s i) 1000 100 (by omega) (by omega) (by omega) (by omega)
              have w1 : IntKind.i64.wrap (L.s k - t) = L.s k - t := IntWalk.i64_in _ (by omega)
              have w2 : IntKind.i64.wrap (t - L.s i) = t - L.s i := IntWalk.i64_in _ (by omega)
              have w3 : IntKind.i64.wrap (L.p i * (L.s k - t)) = L.p i * (L.s k - t) := IntWalk.i64_in _ (by omega)
              have w4 : IntKind.i64.wrap (L.p k * (t - L.s i)) = L.p k * (t - L.s i) := IntWalk.i64_in _ (by omega)
              have w5 : IntKind.i64.wrap (L.p i * (L.s k - t) + L.p k * (t - L.s i)) = L.p i * (L.s k - t) + L.p k * (t - L.s i) := IntWalk.i64_in _ (by omega)
              have w6 : IntKind.i64.wrap (L.s k - L.s i) = L.s k - L.s i := IntWalk.i64_in _ (by omega)
              go_wp2_with fail
              obtain ⟨V2, hV2⟩ : ∃ V : World, W1.alloc (Obj.cells #[Value.int IntKind.i64 ya, Value.int IntKind.i64 yb] 29) = V := ⟨_, rfl⟩
              have k12 : Blk W1.heap.size 29 #[Value.int IntKind.i64 ya, Value.int IntKind.i64 yb] V2 := by rw [← hV2]; exact Blk.new _ _ _
              have hpV : Pure W1 V2 := by rw [← hV2]; exact (Diff.refl _).alloc _
              obtain ⟨g12, hg12⟩ : ∃ g, W1.heap.size = g := ⟨_, rfl⟩
              have HG12 : Hid (¬ g12 = G) := by have := HC2.out.blk.lt; show ¬ g12 = G; omega
              have HGX : Hid (X.heap.size ≤ g12) := by have := HC2.out.diff.size; exact (by omega : X.heap.size ≤ g12)
              rw [hV2, hg12]
              rw [hg12] at k12
              refine (RBy_any V2 (L.p i * (L.s k - t) + L.p k * (t - L.s i)) (L.s k - L.s i) ⟨by omega, by omega⟩ ⟨by omega, by omega⟩).mono ?_
              rintro e W3 ⟨rfl, hp3⟩
              have HXX : Hid (L.pairX t i k = (redN (L.p i * (L.s k - t) + L.p k * (t - L.s i)) (L.s k - L.s i), redD (L.p i * (L.s k - t) + L.p k * (t - L.s i)) (L.s k - L.s i))) := by
                show _ = _
                unfold LT.pairX LT.pN LT.pD
                rw [if_pos h3, if_pos h3]
              obtain ⟨xa, hxa⟩ : ∃ x, redN (L.p i * (L.s k - t) + L.p k * (t - L.s i)) (L.s k - L.s i) = x := ⟨_, rfl⟩
              obtain ⟨xb, hxb⟩ : ∃ x, redD (L.p i * (L.s k - t) + L.p k * (t - L.s i)) (L.s k - L.s i) = x := ⟨_, rfl⟩
              rw [hxa, hxb] at HXX ⊢
              rw [HXX.out] at HXS
              have HXP : Hid (0 < xb) := HXS.out.2.1
              have HXB : Hid ((-1000000000 ≤ xa ∧ xa ≤ 1000000000) ∧ -1000000000 ≤ xb ∧ xb ≤ 1000000000) := by have h1 := HXS.out.1; have h2 := HXS.out.2; dsimp only at h1 h2; exact ⟨⟨by omega, by omega⟩, by omega, by omega⟩
              have K3 := Lib.hid (k12.to hp3)
              have HC3 := Lib.hid (HC2.out.pure (hpV.trans hp3))
              clear hxa hxb w1 w2 w3 w4 w5 w6 m1 m2 hV2 hg12 k12 hpV hp3 a0 a1 al f0 f1 fl
              have cfz := fun o => K3.out.fz o
              have cw0 := K3.out.at 0
              have cw1 := K3.out.at 1
              have cwl := K3.out.lt
              have K12 : Hid (Blk g12 29 #[Value.int IntKind.i64 xa, Value.int IntKind.i64 xb] ((W3.setCell { block := g12, off := 0 } (Value.int IntKind.i64 xa)).setCell { block := g12, off := 1 } (Value.int IntKind.i64 xb))) := K3.out.set2 _ _
              have HCt : Hid (CO X G b1 ((W3.setCell { block := g12, off := 0 } (Value.int IntKind.i64 xa)).setCell { block := g12, off := 1 } (Value.int IntKind.i64 xb))) := HC3.out.other HGX.out HG12.out _ _
            
              have hx2 : Hid (hasB xa xb = true) := hasB_den HXP.out
              have c0 := K12.out.at 0
              have c1 := K12.out.at 1
              have cl := K12.out.lt
              have e0 := HCt.out.blk.at 0
              have e1 := HCt.out.blk.at 1
              have el := HCt.out.blk.lt
              have efz := fun o => HCt.out.blk.fz o
              cases hb : hasB b1.1 b1.2 with
              | false =>
                have HST : Hid (L.stepX t i k b1 = (xa, xb)) := by
                  show _ = _
                  unfold LT.stepX
                  rw [if_pos HCAN.out, HXX.out, if_pos (by show chB xa xb b1.1 b1.2 = true; unfold chB; rw [hx2.out, hb]; rfl)]
                go_wp2
                go_roundw
                case rel => exact ⟨k + 1, by omega, by go_num, by show _ = Value.bool (hasB (L.stepX t i k (L.rowX t i b0 k)).1 (L.stepX t i k (L.rowX t i b0 k)).2); rw [HB1.out, HST.out]; show _ = Value.bool (hasB xa xb); rw [hx2.out], by show CO X G (L.stepX t i k (L.rowX t i b0 k)) _; rw [HB1.out, HST.out]; first | exact HCt.out.set (xa, xb) | exact (HC2.out.set (xa, xb)).pure ((Diff.refl _).alloc _)⟩
                case measure => simp [intOf]; omega
              | true =>
                go_wp2_with fail
                refine (RLess_any _ xa xb b1.1 b1.2 HXB.out.1 HXB.out.2 HBB.out.1 HBB.out.2).mono ?_
                rintro e Wu ⟨rfl, hpu⟩
                have HCu := Lib.hid (HCt.out.pure hpu)
                have Ku := Lib.hid (K12.out.to hpu)
                clear hpu c0 c1 cl e0 e1 el efz
                have c0 := Ku.out.at 0
                have c1 := Ku.out.at 1
                have cl := Ku.out.lt
                have e0 := HCu.out.blk.at 0
                have e1 := HCu.out.blk.at 1
                have el := HCu.out.blk.lt
                have efz := fun o => HCu.out.blk.fz o
                cases hd : decide (xa * b1.2 < b1.1 * xb) with
                | true =>
                  have HST : Hid (L.stepX t i k b1 = (xa, xb)) := by
                    show _ = _
                    unfold LT.stepX
                    rw [if_pos HCAN.out, HXX.out, if_pos (by show chB xa xb b1.1 b1.2 = true; unfold chB; rw [hx2.out, hb, hd]; rfl)]
                  go_wp2
                  go_roundw
                  case rel => exact ⟨k + 1, by omega, by go_num, by show _ = Value.bool (hasB (L.stepX t i k (L.rowX t i b0 k)).1 (L.stepX t i k (L.rowX t i b0 k)).2); rw [HB1.out, HST.out]; show _ = Value.bool (hasB xa xb); rw [hx2.out], by show CO X G (L.stepX t i k (L.rowX t i b0 k)) _; rw [HB1.out, HST.out]; exact HCu.out.set (xa, xb)⟩
                  case measure => simp [intOf]; omega
                | false =>
                  have HST : Hid (L.stepX t i k b1 = b1) := by
                    show _ = _
                    unfold LT.stepX
                    rw [if_pos HCAN.out, HXX.out, if_neg (by show ¬ chB xa xb b1.1 b1.2 = true; unfold chB; rw [hx2.out, hb, hd]; simp)]
                  go_wp2
                  go_roundw
                  case rel => exact ⟨k + 1, by omega, by go_num, by show _ = Value.bool (hasB (L.stepX t i k (L.rowX t i b0 k)).1 (L.stepX t i k (L.rowX t i b0 k)).2); rw [HB1.out, HST.out, hb], by show CO X G (L.stepX t i k (L.rowX t i b0 k)) _; rw [HB1.out, HST.out]; exact HCu.out⟩
                  case measure => simp [intOf]; omega
            · by_cases h4 : L.p k < L.p i
              · go_wp2_with fail
                obtain ⟨V2, hV2⟩ : ∃ V : World, W1.alloc (Obj.cells #[Value.int IntKind.i64 ya, Value.int IntKind.i64 yb] 29) = V := ⟨_, rfl⟩
                have k12 : Blk W1.heap.size 29 #[Value.int IntKind.i64 ya, Value.int IntKind.i64 yb] V2 := by rw [← hV2]; exact Blk.new _ _ _
                have hpV : Pure W1 V2 := by rw [← hV2]; exact (Diff.refl _).alloc _
                obtain ⟨g12, hg12⟩ : ∃ g, W1.heap.size = g := ⟨_, rfl⟩
                have HG12 : Hid (¬ g12 = G) := by have := HC2.out.blk.lt; show ¬ g12 = G; omega
                have HGX : Hid (X.heap.size ≤ g12) := by have := HC2.out.diff.size; exact (by omega : X.heap.size ≤ g12)
                rw [hV2, hg12]
                rw [hg12] at k12
                refine (RBy_any V2 (L.p k) 1 ⟨by omega, by omega⟩ ⟨by omega, by omega⟩).mono ?_
                rintro e W3 ⟨rfl, hp3⟩
                have HXX : Hid (L.pairX t i k = (redN (L.p k) 1, redD (L.p k) 1)) := by
                  show _ = _
                  unfold LT.pairX LT.pN LT.pD
                  rw [if_neg (by omega), if_neg (by omega), Int.min_eq_right (by omega)]
                obtain ⟨xa, hxa⟩ : ∃ x, redN (L.p k) 1 = x := ⟨_, rfl⟩
                obtain ⟨xb, hxb⟩ : ∃ x, redD (L.p k) 1 = x := ⟨_, rfl⟩
                rw [hxa, hxb] at HXX ⊢
                rw [HXX.out] at HXS
                have HXP : Hid (0 < xb) := HXS.out.2.1
                have HXB : Hid ((-1000000000 ≤ xa ∧ xa ≤ 1000000000) ∧ -1000000000 ≤ xb ∧ xb ≤ 1000000000) := by have h1 := HXS.out.1; have h2 := HXS.out.2; dsimp only at h1 h2; exact ⟨⟨by omega, by omega⟩, by omega, by omega⟩
                have K3 := Lib.hid (k12.to hp3)
                have HC3 := Lib.hid (HC2.out.pure (hpV.trans hp3))
                clear hxa hxb hV2 hg12 k12 hpV hp3 a0 a1 al f0 f1 fl
                have cfz := fun o => K3.out.fz o
                have cw0 := K3.out.at 0
                have cw1 := K3.out.at 1
                have cwl := K3.out.lt
                have K12 : Hid (Blk g12 29 #[Value.int IntKind.i64 xa, Value.int IntKind.i64 xb] ((W3.setCell { block := g12, off := 0 } (Value.int IntKind.i64 xa)).setCell { block := g12, off := 1 } (Value.int IntKind.i64 xb))) := K3.out.set2 _ _
                have HCt : Hid (CO X G b1 ((W3.setCell { block := g12, off := 0 } (Value.int IntKind.i64 xa)).setCell { block := g12, off := 1 } (Value.int IntKind.i64 xb))) := HC3.out.other HGX.out HG12.out _ _
            
                have hx2 : Hid (hasB xa xb = true) := hasB_den HXP.out
                have c0 := K12.out.at 0
                have c1 := K12.out.at 1
                have cl := K12.out.lt
                have e0 := HCt.out.blk.at 0
                have e1 := HCt.out.blk.at 1
                have el := HCt.out.blk.lt
                have efz := fun o => HCt.out.blk.fz o
                cases hb : hasB b1.1 b1.2 with
                | false =>
                  have HST : Hid (L.stepX t i k b1 = (xa, xb)) := by
                    show _ = _
                    unfold LT.stepX
                    rw [if_pos HCAN.out, HXX.out, if_pos (by show chB xa xb b1.1 b1.2 = true; unfold chB; rw [hx2.out, hb]; rfl)]
                  go_wp2
                  go_roundw
                  case rel => exact ⟨k + 1, by omega, by go_num, by show _ = Value.bool (hasB (L.stepX t i k (L.rowX t i b0 k)).1 (L.stepX t i k (L.rowX t i b0 k)).2); rw [HB1.out, HST.out]; show _ = Value.bool (hasB xa xb); rw [hx2.out], by show CO X G (L.stepX t i k (L.rowX t i b0 k)) _; rw [HB1.out, HST.out]; first | exact HCt.out.set (xa, xb) | exact (HC2.out.set (xa, xb)).pure ((Diff.refl _).alloc _)⟩
                  case measure => simp [intOf]; omega
                | true =>
                  go_wp2_with fail
                  refine (RLess_any _ xa xb b1.1 b1.2 HXB.out.1 HXB.out.2 HBB.out.1 HBB.out.2).mono ?_
                  rintro e Wu ⟨rfl, hpu⟩
                  have HCu := Lib.hid (HCt.out.pure hpu)
                  have Ku := Lib.hid (K12.out.to hpu)
                  clear hpu c0 c1 cl e0 e1 el efz
                  have c0 := Ku.out.at 0
                  have c1 := Ku.out.at 1
                  have cl := Ku.out.lt
                  have e0 := HCu.out.blk.at 0
                  have e1 := HCu.out.blk.at 1
                  have el := HCu.out.blk.lt
                  have efz := fun o => HCu.out.blk.fz o
                  cases hd : decide (xa * b1.2 < b1.1 * xb) with
                  | true =>
                    have HST : Hid (L.stepX t i k b1 = (xa, xb)) := by
                      show _ = _
                      unfold LT.stepX
                      rw [if_pos HCAN.out, HXX.out, if_pos (by show chB xa xb b1.1 b1.2 = true; unfold chB; rw [hx2.out, hb, hd]; rfl)]
                    go_wp2
                    go_roundw
                    case rel => exact ⟨k + 1, by omega, by go_num, by show _ = Value.bool (hasB (L.stepX t i k (L.rowX t i b0 k)).1 (L.stepX t i k (L.rowX t i b0 k)).2); rw [HB1.out, HST.out]; show _ = Value.bool (hasB xa xb); rw [hx2.out], by show CO X G (L.stepX t i k (L.rowX t i b0 k)) _; rw [HB1.out, HST.out]; exact HCu.out.set (xa, xb)⟩
                    case measure => simp [intOf]; omega
                  | false =>
                    have HST : Hid (L.stepX t i k b1 = b1) := by
                      show _ = _
                      unfold LT.stepX
                      rw [if_pos HCAN.out, HXX.out, if_neg (by show ¬ chB xa xb b1.1 b1.2 = true; unfold chB; rw [hx2.out, hb, hd]; simp)]
                    go_wp2
                    go_roundw
                    case rel => exact ⟨k + 1, by omega, by go_num, by show _ = Value.bool (hasB (L.stepX t i k (L.rowX t i b0 k)).1 (L.stepX t i k (L.rowX t i b0 k)).2); rw [HB1.out, HST.out, hb], by show CO X G (L.stepX t i k (L.rowX t i b0 k)) _; rw [HB1.out, HST.out]; exact HCu.out⟩
                    case measure => simp [intOf]; omega
              · have HXX : Hid (L.pairX t i k = (ya, yb)) := by
                  show _ = _
                  rw [← HY.out.1, ← HY.out.2]
                  unfold LT.pairX LT.pN LT.pD
                  rw [if_neg (by omega), if_neg (by omega), Int.min_eq_left (by omega)]
                rw [HXX.out] at HXS
                obtain ⟨xa, hxa⟩ : ∃ x, ya = x := ⟨_, rfl⟩
                obtain ⟨xb, hxb⟩ : ∃ x, yb = x := ⟨_, rfl⟩
                subst hxa hxb
                have HXP : Hid (0 < yb) := HXS.out.2.1
                have HXB : Hid ((-1000000000 ≤ ya ∧ ya ≤ 1000000000) ∧ -1000000000 ≤ yb ∧ yb ≤ 1000000000) := by have h1 := HXS.out.1; have h2 := HXS.out.2; dsimp only at h1 h2; exact ⟨⟨by omega, by omega⟩, by omega, by omega⟩
                have K12 : Hid (Blk W1.heap.size 29 #[Value.int IntKind.i64 ya, Value.int IntKind.i64 yb] (W1.alloc (Obj.cells #[Value.int IntKind.i64 ya, Value.int IntKind.i64 yb] 29))) := Blk.new _ _ _
                have HCt : Hid (CO X G b1 (W1.alloc (Obj.cells #[Value.int IntKind.i64 ya, Value.int IntKind.i64 yb] 29))) := HC2.out.pure ((Diff.refl _).alloc _)
                have d0 := HC2.out.blk.at 0
                have d1 := HC2.out.blk.at 1
                have dl := HC2.out.blk.lt
                have dfz := fun o => HC2.out.blk.fz o
                have hx2 : Hid (hasB ya yb = true) := hasB_den HXP.out
                have c0 := K12.out.at 0
                have c1 := K12.out.at 1
                have cl := K12.out.lt
                have e0 := HCt.out.blk.at 0
                have e1 := HCt.out.blk.at 1
                have el := HCt.out.blk.lt
                have efz := fun o => HCt.out.blk.fz o
                cases hb : hasB b1.1 b1.2 with
                | false =>
                  have HST : Hid (L.stepX t i k b1 = (ya, yb)) := by
                    show _ = _
                    unfold LT.stepX
                    rw [if_pos HCAN.out, HXX.out, if_pos (by show chB ya yb b1.1 b1.2 = true; unfold chB; rw [hx2.out, hb]; rfl)]
                  go_wp2
                  go_roundw
                  case rel => exact ⟨k + 1, by omega, by go_num, by show _ = Value.bool (hasB (L.stepX t i k (L.rowX t i b0 k)).1 (L.stepX t i k (L.rowX t i b0 k)).2); rw [HB1.out, HST.out]; show _ = Value.bool (hasB ya yb); rw [hx2.out], by show CO X G (L.stepX t i k (L.rowX t i b0 k)) _; rw [HB1.out, HST.out]; first | exact HCt.out.set (ya, yb) | exact (HC2.out.set (ya, yb)).pure ((Diff.refl _).alloc _)⟩
                  case measure => simp [intOf]; omega
                | true =>
                  go_wp2_with fail
                  refine (RLess_any _ ya yb b1.1 b1.2 HXB.out.1 HXB.out.2 HBB.out.1 HBB.out.2).mono ?_
                  rintro e Wu ⟨rfl, hpu⟩
                  have HCu := Lib.hid (HCt.out.pure hpu)
                  have Ku := Lib.hid (K12.out.to hpu)
                  clear hpu c0 c1 cl e0 e1 el efz
                  have c0 := Ku.out.at 0
                  have c1 := Ku.out.at 1
                  have cl := Ku.out.lt
                  have e0 := HCu.out.blk.at 0
                  have e1 := HCu.out.blk.at 1
                  have el := HCu.out.blk.lt
                  have efz := fun o => HCu.out.blk.fz o
                  cases hd : decide (ya * b1.2 < b1.1 * yb) with
                  | true =>
                    have HST : Hid (L.stepX t i k b1 = (ya, yb)) := by
                      show _ = _
                      unfold LT.stepX
                      rw [if_pos HCAN.out, HXX.out, if_pos (by show chB ya yb b1.1 b1.2 = true; unfold chB; rw [hx2.out, hb, hd]; rfl)]
                    go_wp2
                    go_roundw
                    case rel => exact ⟨k + 1, by omega, by go_num, by show _ = Value.bool (hasB (L.stepX t i k (L.rowX t i b0 k)).1 (L.stepX t i k (L.rowX t i b0 k)).2); rw [HB1.out, HST.out]; show _ = Value.bool (hasB ya yb); rw [hx2.out], by show CO X G (L.stepX t i k (L.rowX t i b0 k)) _; rw [HB1.out, HST.out]; exact HCu.out.set (ya, yb)⟩
                    case measure => simp [intOf]; omega
                  | false =>
                    have HST : Hid (L.stepX t i k b1 = b1) := by
                      show _ = _
                      unfold LT.stepX
                      rw [if_pos HCAN.out, HXX.out, if_neg (by show ¬ chB ya yb b1.1 b1.2 = true; unfold chB; rw [hx2.out, hb, hd]; simp)]
                    go_wp2
                    go_roundw
                    case rel => exact ⟨k + 1, by omega, by go_num, by show _ = Value.bool (hasB (L.stepX t i k (L.rowX t i b0 k)).1 (L.stepX t i k (L.rowX t i b0 k)).2); rw [HB1.out, HST.out, hb], by show CO X G (L.stepX t i k (L.rowX t i b0 k)) _; rw [HB1.out, HST.out]; exact HCu.out⟩
                    case measure => simp [intOf]; omega
        · obtain rfl : k = L.n := by omega
          go_wp2
          go_roundw
          case rel => exact ⟨i + 1, by omega, by go_num, by rw [← HB0.out]; rfl, by show CO X G (L.rowX t i (L.refTo t i) L.n) _; rw [HB0.out]; exact HC1.out⟩
          case measure => simp [intOf]; omega
    · obtain rfl : i = L.n := by omega
      have HCE : Hid (CO X G (L.refC t) wr) := HC.out
      have hrd : L.refTo t L.n = L.refC t := rfl
      rw [hrd]
      obtain ⟨c, hc⟩ : ∃ c, L.refC t = c := ⟨_, rfl⟩
      have HCC := Lib.hid hc
      rw [hc] at HCE ⊢
      clear hrd hc
      have HPr : Hid (Pure w wr) := HPX.out.trans' HCE.out.diff (fun z hz e => by have e' : z = G := e; have := HG.out; omega)
      have K4r : Hid (Blk w.heap.size 29 #[.int .i64 0, .int .i64 0] wr) := K4.out.diff HCE.out.diff (by have := HG.out; show ¬ w.heap.size = G; omega)
      have c0 := HCE.out.blk.at 0
      have c1 := HCE.out.blk.at 1
      have cl := HCE.out.blk.lt
      have e0 := K4r.out.at 0
      have e1 := K4r.out.at 1
      have fz := fun o => K4r.out.fz o
      have el := K4r.out.lt
      go_wp2
      have z := K4r.out.set2 (Value.int IntKind.i64 c.1) (Value.int IntKind.i64 c.2)
      have HPZ := HPr.out.set2 (g := w.heap.size) (by omega) (Value.int IntKind.i64 c.1) (Value.int IntKind.i64 c.2)
      obtain ⟨Y, hY⟩ : ∃ Y, (wr.setCell { block := w.heap.size, off := 0 } (Value.int IntKind.i64 c.1)).setCell { block := w.heap.size, off := 1 } (Value.int IntKind.i64 c.2) = Y := ⟨_, rfl⟩
      first | rw [hY] at z HPZ HR9 ⊢ | rw [hY] at z HPZ ⊢
      clear hY
      exact bodyPost_ret (v := .tuple #[.agg #[.int .i64 c.1, .int .i64 c.2], .bool (hasB c.1 c.2)]) (by simp [results, Tryd.results69, go_sem, z.at 0, z.at 1]) rfl ⟨by rw [HCC.out], HPZ⟩
end Go.Proofs.YtgpfmnjianflaaaDoor
