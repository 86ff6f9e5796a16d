/- The walk of Round. The walk of checkLots. The walks of Span and Apart. -/
import Derived.Test.YtmedkmbfggphdaaDoorF82
import Derived.Test.YtmedkmbfggphdaaDoorK4
import Derived.Test.YtmedkmbfggphdaaDoorM06
import Derived.Test.YtmedkmbfggphdaaDoorM07
set_option linter.unusedSimpArgs false
set_option linter.unusedVariables false
set_option linter.constructorNameAsVariable false
namespace Go.Proofs.YtmedkmbfggphdaaDoor
open Go.RowKit

theorem bestTo_lt {W : Nat → Int} : ∀ {k i : Nat} {m : Int}, bestTo W k = some (i, m) → i < k
  | 0, _, _, h => by cases h
  | k + 1, i, m, h => by
    unfold bestTo at h
    cases hb : bestTo W k with
    | none => rw [hb] at h; simp only [Option.some.injEq, Prod.mk.injEq] at h; omega
    | some x =>
      obtain ⟨i', m'⟩ := x
      rw [hb] at h
      simp only at h
      have := bestTo_lt hb
      split at h <;> (simp only [Option.some.injEq, Prod.mk.injEq] at h; omega)

def nmN (b : BK) : Nat := 1 + b.lots.toNat + b.total
/-- What Round answers. -/
def roundQ (b : BK) (w : World) (e : Ending) (w' : World) : Prop :=
  if checkB b ≠ 0 then e = .returned (.tuple #[.slice none 0 0, .int .i64 (checkB b)])
  else if noneB b.es = false then e = .returned (.tuple #[.slice none 0 0, .int .i64 5])
  else ∃ (v : Value) (r : List Int), RoundOk b.es (nmN b) r ∧ r.length ≤ 19 ∧ e = .returned (.tuple #[v, .int .i64 0]) ∧ w'.ownsRow w.heap.size 3 1 v r.length (vals r)

theorem RoundOk.len {es : List ME} {N : Nat} {l : List Int} (h : RoundOk es N l) : l.length ≤ N := by
  refine nodup_length N l ?_ ?_
  · rw [List.nodup_iff_pairwise_ne, List.pairwise_iff_getElem]
    intro i j hi hj hij he
    have := List.all_eq_true.1 h.dif j (by simpa using hj)
    simp only [dOk, Bool.and_eq_true, Bool.not_eq_true', List.any_eq_false] at this
    have h2 := this.2.2 i (by simpa using hij)
    simp [nthI, List.getD_eq_getElem?_getD, hi, hj, he] at h2
  · intro x hx
    obtain ⟨j, hj, rfl⟩ := List.mem_iff_getElem.1 hx
    have := List.all_eq_true.1 h.dif j (by simpa using hj)
    simp only [dOk, Bool.and_eq_true, decide_eq_true_eq] at this
    have h1 := this.1
    have h2 := this.2.1
    simp [nthI, List.getD_eq_getElem?_getD, hj] at h1 h2
    exact ⟨h1, h2⟩

set_option maxRecDepth 20000 in
set_option maxHeartbeats 2000000 in
theorem Round_any (w : World) (b : BK) (p : Option Addr) (cap : Nat) (hs : b.Small) (hb : BookAt w.heap.size w p b) (hg : Gl w) :
    Calls Tryd.prog 41 #[bookV b p cap] w fun e w' => roundQ b w e w' ∧ Pure w w' := by
  go_enter Tryd.func41, Tryd.ntmps41
  go_wp2_with fail
  have hP0 : Pure w (w.alloc (.cells (bookC b p cap) 26)) := (Diff.refl w).alloc _
  refine (CheckBook_any _ b p cap hs ((hb.diff hP0 (Nat.le_refl _) (fun _ _ => id)).mono hP0.size) (hg.diff hP0 (fun _ _ => id))).mono ?_
  rintro e w1 ⟨rfl, hp1⟩
  have HP1 : Hid (Pure w w1) := hP0.trans hp1
  have hX1 : w1.heap[w.heap.size]? = some (.cells (bookC b p cap) 26 (0, 0)) := (hp1.block _ (by simp) id).trans (World.alloc_heap_new _ _)
  have hBl : w.heap.size < w1.heap.size := (Array.getElem?_eq_some_iff.1 hX1).1
  have hC0 : w1.cell? ⟨w.heap.size, 0, none⟩ = some (.int .i64 b.lo) := by rw [cell_of_row w1 _ _ _ _ _ hX1]; rfl
  have hC1 : w1.cell? ⟨w.heap.size, 1, none⟩ = some (.int .i64 b.hi) := by rw [cell_of_row w1 _ _ _ _ _ hX1]; rfl
  have hC2 : w1.cell? ⟨w.heap.size, 2, none⟩ = some (.int .i64 b.lots) := by rw [cell_of_row w1 _ _ _ _ _ hX1]; rfl
  have hC3 : w1.cell? ⟨w.heap.size, 3, none⟩ = some (.slice p b.n cap) := by rw [cell_of_row w1 _ _ _ _ _ hX1]; rfl
  clear hp1 hX1 hP0
  by_cases hck : checkB b = 0
  · have HHB := Lib.hid hb
    have HG := Lib.hid hg
    have hv := checkB_valid hck
    have hgd := b.netM_good hv
    have HCK := Lib.hid hck
    have h12 := hv.tot
    have hl1 := hv.lots1
    have hl6 := hv.lots6
    rw [hck]
    clear hck hb hg
    have HN : Hid ((nmN b : Int) = 1 + b.lots + b.total) := by show _ = _; unfold nmN; omega
    have hE := b.netOf hv (nmN b) HN.out
    have hN19 : nmN b ≤ 19 := by have := HN.out; omega
    have HFI := Lib.hid (foundR_iff hE hgd (b.loose hv))
    have HFO := Lib.hid (foundR_ok hE)
    clear hE
    go_wp2_with fail
    obtain ⟨X, hX⟩ : ∃ X, w1.alloc (.cells (bookC b p cap) 82) = X := ⟨_, rfl⟩
    have hPX : Pure w1 X := by rw [← hX]; exact (Diff.refl w1).alloc _
    have hX1 : X.heap[w1.heap.size]? = some (.cells (bookC b p cap) 82 (0, 0)) := by rw [← hX]; exact World.alloc_heap_new _ _
    have HPX : Pure w X := HP1.out.trans hPX
    rw [hX]
    clear hX hC0 hC1 hC2 hC3 hPX HP1
    refine (rounds_any X b p cap hv ((HHB.out.diff HPX (Nat.le_refl _) (fun _ _ => id)).mono HPX.size) (HG.out.diff HPX (fun _ _ => id)) (nmN b) HN.out).mono ?_
    rintro e w2 ⟨u, vs, rfl, hp2, hown, hfnd⟩
    obtain ⟨gB, hgB⟩ : ∃ gB, w1.heap.size = gB := ⟨_, rfl⟩
    rw [hgB] at hX1 hBl ⊢
    have hX2 := (hp2.block _ (Array.getElem?_eq_some_iff.1 hX1).1 id).trans hX1
    have hgBX : gB < X.heap.size := (Array.getElem?_eq_some_iff.1 hX1).1
    have HP2 : Hid (Pure w w2) := HPX.trans hp2
    clear hX1 hp2
    obtain ⟨fs, hfs⟩ : ∃ fs, foundR b.bn b.bnN (nmN b) = fs := ⟨_, rfl⟩
    have hfb : (foundR b.bn b.bnN (nmN b)).length ≤ 19 * 60 := by
      have h1 := found_len_pass b.bn b.bnN (nmN b) (nmN b)
      have hM60 : b.bnN ≤ 60 := by
        obtain ⟨L, hL⟩ := Int.eq_ofNat_of_zero_le (show 0 ≤ b.lots by omega)
        unfold BK.bnN; rw [b.rgN_eq L hL]; omega
      exact Nat.le_trans h1 (Nat.mul_le_mul hN19 hM60)
    rw [hfs] at hown hfnd HFI HFO hfb
    clear hfs
    rcases hown with ⟨hvl, ⟨rfl, h0⟩ | ⟨g, cp, cur, rfl, hg1, hg2, hg3, hg4, hg5, hg6⟩⟩
    · have hfe : fs = [] := List.eq_nil_of_length_eq_zero h0
      have HNO : Hid (noneB b.es = false) := HFI.out.1 hfe
      clear hfe hvl hfnd h0
      go_wp2_with fail
      exact bodyPost_ret (v := .tuple #[.slice none 0 0, .int .i64 5]) (by simp [results, Tryd.results41, go_sem]) rfl ⟨by unfold roundQ; rw [if_neg (by simp [HCK.out]), if_pos HNO.out], HP2.out⟩
    · obtain ⟨m, hm⟩ : ∃ m, fs.length = m := ⟨_, rfl⟩
      rw [hm] at hvl hg3 hg6 hfb ⊢
      by_cases h0 : m = 0
      · subst h0
        have hfe : fs = [] := List.eq_nil_of_length_eq_zero hm
        have HNO : Hid (noneB b.es = false) := HFI.out.1 hfe
        clear hfe hvl hfnd hm hg2 hg6 hg5 hg4 hg3
        go_wp2_with fail
        exact bodyPost_ret (v := .tuple #[.slice none 0 0, .int .i64 5]) (by simp [results, Tryd.results41, go_sem]) rfl ⟨by unfold roundQ; rw [if_neg (by simp [HCK.out]), if_pos HNO.out], HP2.out⟩
      · have hm0 : ¬ ((m : Int) = 0) := by omega
        have HNO : Hid (¬ noneB b.es = false) := fun h => by
          have := HFI.out.2 h
          rw [this] at hm; simp at hm; omega
        have HM := Lib.hid hm
        have hD0 : w2.cell? ⟨gB, 0, none⟩ = some (.int .i64 b.lo) := by rw [cell_of_row w2 _ _ _ _ _ hX2]; rfl
        have hD1 : w2.cell? ⟨gB, 1, none⟩ = some (.int .i64 b.hi) := by rw [cell_of_row w2 _ _ _ _ _ hX2]; rfl
        have hD2 : w2.cell? ⟨gB, 2, none⟩ = some (.int .i64 b.lots) := by rw [cell_of_row w2 _ _ _ _ _ hX2]; rfl
        have hD3 : w2.cell? ⟨gB, 3, none⟩ = some (.slice p b.n cap) := by rw [cell_of_row w2 _ _ _ _ _ hX2]; rfl
        have HG2 := Lib.hid hg2
        have HG6 := Lib.hid hg6
        have HFN := Lib.hid hfnd
        have HVL := Lib.hid hvl
        clear hm hg2 hg6 hX2 hfnd hvl
        go_wp2_with fail
        refine (net_any w2 b p cap hv ((HHB.out.diff HP2.out (Nat.le_refl _) (fun _ _ => id)).mono HP2.out.size) (HG.out.diff HP2.out (fun _ _ => id))).mono ?_
        rintro e w3 ⟨rfl, hm3, hp3⟩
        have HP3 : Hid (Pure w w3) := HP2.out.trans hp3
        have HM3 := Lib.hid hm3
        have HP23 := Lib.hid hp3
        clear hm3 hp3 hD0 hD1 hD2 hD3
        have hform : ∀ k, ∃ z : Nat × Nat, k < m → (vs.getD k undef = .slice (some ⟨z.1, 0, none⟩) (fs.getD k []).length z.2 ∧ 1 ≤ (fs.getD k []).length ∧ (fs.getD k []).length ≤ 19 ∧ z.1 < w3.heap.size ∧ X.heap.size ≤ z.1 ∧ RoundOk b.es (nmN b) (fs.getD k []) ∧ w3.ownsRow X.heap.size 3 1 (vs.getD k undef) (fs.getD k []).length (vals (fs.getD k [])) ∧
            ∀ j, j < (fs.getD k []).length → w3.cell? ⟨z.1, 0 + j, none⟩ = some (.int .i64 (nthI (fs.getD k []) j))) := by
          intro k
          by_cases hk : k < m
          · have hkv : vs[k]? = some (vs.getD k undef) := by
              have : k < vs.length := by have := HVL.out; omega
              simp [List.getD_eq_getElem?_getD, this]
            obtain ⟨r, hr1, hr2⟩ := HFN.out k _ hkv
            have hrd : fs.getD k [] = r := by simp [List.getD_eq_getElem?_getD, hr1]
            rw [hrd]
            have hok := HFO.out r (List.mem_of_getElem? hr1)
            have hr3 := own_pure hr2 HP23.out
            have hlen := hok.len
            have hpos := hok.pos
            have how : OwnO (fun _ => False) w3 X.heap.size (vs.getD k undef) r := ⟨hr3, fun _ _ h => h⟩
            obtain ⟨g', c', h1, h2, h3, h4, -, h6⟩ := how.form hok.pos
            refine ⟨(g', c'), fun _ => ⟨h1, hpos, by omega, h3, h2, hok, hr3, fun j hj => ?_⟩⟩
            rw [Nat.zero_add]
            exact h6 j _ (by simp [nthI, List.getD_eq_getElem?_getD, hj])
          · exact ⟨(0, 0), fun h => absurd h hk⟩
        obtain ⟨z, hz⟩ := Classical.axiomOfChoice hform
        have hbst := best_any w3 (w2.heap.size + 1) b.bnN m cp (some ⟨g, 0, none⟩) b.es (fun k => vs.getD k undef) (fun k => (z k).1) (fun _ => 0) (fun k => (fs.getD k []).length) (fun k => (z k).2) (fun k j => nthI (fs.getD k []) j) hgd HM3.out (by omega)
          (fun k hk => ⟨g, 0, rfl, Nat.lt_of_lt_of_le (Array.getElem?_eq_some_iff.1 HG2.out).1 HP23.out.size, by
            have hlt := (Array.getElem?_eq_some_iff.1 HG2.out).1
            rw [(pcell HP23.out).1 g _ hlt, cell_of_row w2 _ _ _ _ _ HG2.out, Nat.zero_add]
            have hv2 : vs[k]? = some (vs.getD k undef) := by
              have : k < vs.length := by have := HVL.out; omega
              simp [List.getD_eq_getElem?_getD, this]
            have hv3 : (cur.toList.take (m * 1))[k]? = some (vs.getD k undef) := by rw [HG6.out]; exact hv2
            rw [List.getElem?_take] at hv3
            split at hv3
            · simpa using hv3
            · cases hv3⟩)
          (fun k hk => (hz k hk).1) (fun k hk => ⟨(hz k hk).2.1, by have := (hz k hk).2.2.1; omega⟩) (fun k hk => (hz k hk).2.2.2.1) (fun k hk j hj => (hz k hk).2.2.2.2.2.2.2 j hj)
        have HZ := Lib.hid hz
        clear hz hform
        go_wp2_with fail
        refine hbst.mono ?_
        rintro e w4 ⟨rfl, hp4⟩
        clear hbst
        obtain ⟨i0, mm, hbt⟩ := bestTo_some (fun k => -(sumTo b.es (fun j => nthI (fs.getD k []) j) (fs.getD k []).length (fs.getD k []).length)) m (by omega)
        have hi0 := bestTo_lt hbt
        rw [hbt]
        obtain ⟨h1, h2, h3, h4, h5, h6, h7, h8⟩ := HZ.out i0 hi0
        have HOW : Hid (w4.ownsRow w.heap.size 3 1 (vs.getD i0 undef) (fs.getD i0 []).length (vals (fs.getD i0 []))) := own_mono (own_pure h7 hp4) HPX.size
        have HP4 : Hid (Pure w w4) := HP3.out.trans hp4
        have HOK := Lib.hid h6
        have HLE := Lib.hid h3
        clear h1 h2 h3 h4 h5 h6 h7 h8 hp4 hbt
        simp only [topV]
        go_wp2_with fail
        exact bodyPost_ret (v := .tuple #[vs.getD i0 undef, .int .i64 0]) (by simp [results, Tryd.results41, go_sem]) rfl ⟨by unfold roundQ; rw [if_neg (by simp [HCK.out]), if_neg HNO.out]; exact ⟨_, _, HOK.out, HLE.out, rfl, HOW.out⟩, HP4.out⟩
  · go_wp2_with fail
    exact bodyPost_ret (v := .tuple #[.slice none 0 0, .int .i64 (checkB b)]) (by simp [results, Tryd.results41, go_sem]) rfl ⟨by unfold roundQ; rw [if_pos hck], HP1.out⟩
end Go.Proofs.YtmedkmbfggphdaaDoor

namespace Go.Proofs.YtmedkmbfggphdaaDoor
open Go.RowKit

def lotsC (b : BK) (f : Nat → Int) (n : Nat) : Int := if checkB b ≠ 0 then checkB b else if wAll 0 (b.lots - 1) f n = true then 0 else 2

set_option maxHeartbeats 1000000 in
theorem checkLots_any (w : World) (b : BK) (p q : Option Addr) (cap n c : Nat) (f : Nat → Int) (hs : b.Small) (hb : BookAt w.heap.size w p b) (hg : Gl w) (hn : n ≤ 1000) (hr : Row w.heap.size w q n fun k => .int .i64 (f k)) :
    Calls Tryd.prog 71 #[bookV b p cap, .slice q n c] w fun e w' => e = .returned (.int .i64 (lotsC b f n)) ∧ Pure w w' := by
  go_enter Tryd.func71, Tryd.ntmps71
  go_wp2_with fail
  have hP0 : Pure w (w.alloc (.cells (bookC b p cap) 26)) := (Diff.refl w).alloc _
  refine (CheckBook_any _ b p cap hs ((hb.diff hP0 (Nat.le_refl _) (fun _ _ => id)).mono hP0.size) (hg.diff hP0 (fun _ _ => id))).mono ?_
  rintro e w1 ⟨rfl, hp1⟩
  have hr1 := (hr.diff (hP0.trans hp1) (Nat.le_refl _) (fun _ _ => id))
  have HP1 : Hid (Pure w w1) := hP0.trans hp1
  have hX1 : w1.heap[w.heap.size]? = some (.cells (bookC b p cap) 26 (0, 0)) := (hp1.block _ (by simp) id).trans (World.alloc_heap_new _ _)
  have hBl : w.heap.size < w1.heap.size := (Array.getElem?_eq_some_iff.1 hX1).1
  have hC2 : w1.cell? ⟨w.heap.size, 1 + 1, none⟩ = some (.int .i64 b.lots) := by rw [cell_of_row w1 _ _ _ _ _ hX1]; rfl
  clear hp1 hX1 hP0 hb hg hr
  by_cases hck : checkB b = 0
  · have HCK := Lib.hid hck
    have hv := checkB_valid hck
    have hl1 := hv.lots1
    have hl6 := hv.lots6
    rw [hck]
    clear hck
    go_wp2_with fail
    go_loop [7, 15] (fun _ i => ∃ k : Nat, k ≤ n ∧ i = .int .i64 k ∧ wAll 0 (b.lots - 1) f k = true) (fun _ i => n - (intOf i).toNat)
    case atStart => exact ⟨0, Nat.zero_le _, rfl, rfl⟩
    case round =>
      obtain ⟨k, hk, rfl, hall⟩ := hrel
      have HA := Lib.hid hall
      clear hall
      by_cases hlt : k < n
      · obtain ⟨blk, o, rfl, hblk, hc⟩ := hr1 k hlt
        have HF : Hid (∀ g, wIn 0 (b.lots - 1) (f k) = g → wAll 0 (b.lots - 1) f (k + 1) = g) := fun g hg => by rw [wAll_succ, HA.out, hg]; rfl
        by_cases h1 : 0 ≤ f k
        · by_cases h2 : f k < b.lots
          · go_wp2
            go_round
            case rel => exact ⟨k + 1, by omega, by go_num, HF.out _ (by simp [wIn]; omega)⟩
            case measure => simp [intOf]; omega
          · go_wp2
            go_ret
            exact ⟨by unfold lotsC; rw [if_neg (by have := HCK.out; omega), if_neg (by rw [wAll_false hlt (by simp [wIn]; omega)]; simp)]; rfl, HP1.out⟩
        · go_wp2
          go_ret
          exact ⟨by unfold lotsC; rw [if_neg (by have := HCK.out; omega), if_neg (by rw [wAll_false hlt (by simp [wIn]; omega)]; simp)]; rfl, HP1.out⟩
      · obtain rfl : n = k := by omega
        go_wp2
        go_ret
        exact ⟨by unfold lotsC; rw [if_neg (by have := HCK.out; omega), if_pos HA.out]; rfl, HP1.out⟩
  · go_wp2_with fail
    exact bodyPost_ret (v := .int .i64 (checkB b)) (by simp [results, Tryd.results71, go_sem]) rfl ⟨by unfold lotsC; rw [if_pos hck], HP1.out⟩
end Go.Proofs.YtmedkmbfggphdaaDoor

namespace Go.Proofs.YtmedkmbfggphdaaDoor
open Go.RowKit

def apLo (b : BK) (x y : Nat) : Int := bif noneB b.es then 0 else -(b.T (x * 19 + y)).by'
def apHi (b : BK) (x y : Nat) : Int := bif noneB b.es then 0 else (b.T (y * 19 + x)).by'
def apE (b : BK) : Int := bif noneB b.es then 17 else 0
def apQ (b : BK) (E : Int) (x y : Nat) : Value := if E ≠ 0 then .tuple #[.agg #[.int .i64 0, .int .i64 0], .int .i64 E] else .tuple #[.agg #[.int .i64 (apLo b x y), .int .i64 (apHi b x y)], .int .i64 (apE b)]
theorem apart72_ap (w : World) (b : BK) (p : Option Addr) (cap : Nat) (x y : Nat) (hx : x < 19) (hy : y < 19) (hv : b.Valid) (hb : BookAt w.heap.size w p b) (hg : Gl w) :
    Calls Tryd.prog 72 #[bookV b p cap, .int .i64 x, .int .i64 y] w fun e w' => e = .returned (.tuple #[.agg #[.int .i64 (apLo b x y), .int .i64 (apHi b x y)], .int .i64 (apE b)]) ∧ Pure w w' := by
  refine (apart72_any w b p cap x y hx hy hv hb hg).mono ?_
  rintro e w' ⟨rfl, hp⟩
  refine ⟨?_, hp⟩
  unfold apLo apHi apE apartV
  cases noneB b.es <;> rfl
theorem apart72_zero (w : World) (b : BK) (p : Option Addr) (cap : Nat) (x : Nat) (hx : x < 19) (hv : b.Valid) (hb : BookAt w.heap.size w p b) (hg : Gl w) :
    Calls Tryd.prog 72 #[bookV b p cap, .int .i64 x, .int .i64 0] w fun e w' => e = .returned (.tuple #[.agg #[.int .i64 (apLo b x 0), .int .i64 (apHi b x 0)], .int .i64 (apE b)]) ∧ Pure w w' :=
  apart72_ap w b p cap x 0 hx (by omega) hv hb hg

theorem lotsC_ok {b : BK} {f : Nat → Int} {n : Nat} (h : lotsC b f n = 0) : b.Valid ∧ ∀ k, k < n → 0 ≤ f k ∧ f k < b.lots := by
  unfold lotsC at h
  split at h
  · rename_i h1; exact absurd h h1
  · rename_i h1
    split at h
    · rename_i h2
      refine ⟨checkB_valid (by simpa using h1), fun k hk => ?_⟩
      cases hq : wIn 0 (b.lots - 1) (f k) with
      | false => rw [wAll_false hk hq] at h2; cases h2
      | true => simp [wIn] at hq; omega
    · cases h

set_option maxRecDepth 20000 in
set_option maxHeartbeats 2000000 in
theorem Span_any (w : World) (b : BK) (p : Option Addr) (cap : Nat) (lot : Int) (hs : b.Small) (hb : BookAt w.heap.size w p b) (hg : Gl w) :
    Calls Tryd.prog 34 #[bookV b p cap, .int .i64 lot] w fun e w' => e = .returned (apQ b (lotsC b (fun _ => lot) 1) (1 + lot.toNat) 0) ∧ Pure w w' := by
  have hmx : Tryd.prog.follows .mixedOrders = true := by kernel_rfl
  go_enter Tryd.func34, Tryd.ntmps34
  go_wp2_with fail
  obtain ⟨X0, hX0⟩ : ∃ X0, (w.alloc (.cells (bookC b p cap) 26)).alloc (.cells #[.int .i64 0, .int .i64 0] 23) = X0 := ⟨_, rfl⟩
  have hs0 : X0.heap.size = w.heap.size + 2 := by rw [← hX0]; simp
  have hP0 : Pure w X0 := by rw [← hX0]; exact ((Diff.refl w).alloc _).alloc _
  have hB0 : X0.heap[w.heap.size]? = some (.cells (bookC b p cap) 26 (0, 0)) := by rw [← hX0]; exact (Below.heap_alloc _ _ _ (by simp)).trans (World.alloc_heap_new _ _)
  have hR0 : X0.heap[w.heap.size + 1]? = some (.cells #[.int .i64 0, .int .i64 0] 23 (0, 0)) := by
    rw [← hX0]
    have := World.alloc_heap_new (w.alloc (.cells (bookC b p cap) 26)) (.cells #[.int .i64 0, .int .i64 0] 23)
    rwa [World.size_alloc] at this
  have hrow := row_new X0 #[.int .i64 lot] 3 1 (w.heap.size + 2) (fun _ => .int .i64 lot) hs0.symm (fun k hk => by cases k with | zero => rfl | succ k => omega)
  rw [hX0]
  clear hX0
  obtain ⟨X, hX⟩ : ∃ X, X0.alloc (.cells #[.int .i64 lot] 3) = X := ⟨_, rfl⟩
  have hPX : Pure X0 X := by rw [← hX]; exact (Diff.refl X0).alloc _
  rw [hX] at hrow ⊢
  clear hX
  have hP1 : Pure w X := hP0.trans hPX
  have hK : Kept w [(w.heap.size, .cells (bookC b p cap) 26), (w.heap.size + 1, .cells #[.int .i64 0, .int .i64 0] 23)] X := by
    refine Kept.pure ⟨hP0, ?_⟩ hPX
    intro x hx
    simp only [List.mem_cons, List.mem_nil_iff, or_false] at hx
    rcases hx with rfl | rfl
    · exact hB0
    · exact hR0
  refine (checkLots_any X b p (some ⟨w.heap.size + 2, 0, none⟩) cap 1 1 (fun _ => lot) hs ((hb.diff hP1 (Nat.le_refl _) (fun _ _ => id)).mono hP1.size) (hg.diff hP1 (fun _ _ => id)) (by omega) hrow).mono ?_
  rintro e w1 ⟨rfl, hp1⟩
  have HK1 := Lib.hid (hK.pure hp1)
  have hR := HK1.out.objs (w.heap.size + 1, .cells #[.int .i64 0, .int .i64 0] 23) (by simp)
  have hf3 : w1.frozen? ⟨w.heap.size + 1, 0, none⟩ = false := frozen_of_row w1 _ _ _ _ hR
  have hf4 : w1.frozen? ⟨w.heap.size + 1, 1, none⟩ = false := frozen_of_row w1 _ _ _ _ hR
  have hc3 : w1.cell? ⟨w.heap.size + 1, 0, none⟩ = some (.int .i64 0) := by rw [cell_of_row w1 _ _ _ _ _ hR]; rfl
  have hc4 : w1.cell? ⟨w.heap.size + 1, 1, none⟩ = some (.int .i64 0) := by rw [cell_of_row w1 _ _ _ _ _ hR]; rfl
  have hX1 := HK1.out.objs (w.heap.size, .cells (bookC b p cap) 26) (by simp)
  have hC0 : w1.cell? ⟨w.heap.size, 0, none⟩ = some (.int .i64 b.lo) := by rw [cell_of_row w1 _ _ _ _ _ hX1]; rfl
  have hC1 : w1.cell? ⟨w.heap.size, 1, none⟩ = some (.int .i64 b.hi) := by rw [cell_of_row w1 _ _ _ _ _ hX1]; rfl
  have hC2 : w1.cell? ⟨w.heap.size, 2, none⟩ = some (.int .i64 b.lots) := by rw [cell_of_row w1 _ _ _ _ _ hX1]; rfl
  have hC3 : w1.cell? ⟨w.heap.size, 3, none⟩ = some (.slice p b.n cap) := by rw [cell_of_row w1 _ _ _ _ _ hX1]; rfl
  clear hR hX1 hp1 hrow hK hP0 hPX hP1 hs0 hB0 hR0
  by_cases hck : lotsC b (fun _ => lot) 1 = 0
  · have HCK := Lib.hid hck
    rw [hck]
    clear hck hf3 hf4 hc3 hc4
    obtain ⟨hv, hlots⟩ := lotsC_ok HCK.out
    have hl6 := hv.lots6
    obtain ⟨h0, h1⟩ := hlots 0 (by omega)
    obtain ⟨x, hx⟩ := Int.eq_ofNat_of_zero_le h0

    subst hx
    clear hlots h0
    go_wp2_with fail
    obtain ⟨W2, hW2⟩ : ∃ W2, w1.alloc (.cells (bookC b p cap) 82) = W2 := ⟨_, rfl⟩
    have hKK : Kept w [(w.heap.size + 1, .cells #[.int .i64 0, .int .i64 0] 23), (w1.heap.size, .cells (bookC b p cap) 82)] W2 := by
      have h1 := HK1.out.pure (wr' := W2) (by rw [← hW2]; exact (Diff.refl _).alloc _)
      refine ⟨h1.pw, ?_⟩
      intro x hx
      simp only [List.mem_cons, List.mem_nil_iff, or_false] at hx
      rcases hx with rfl | rfl
      · exact h1.objs (w.heap.size + 1, .cells #[.int .i64 0, .int .i64 0] 23) (by simp)
      · rw [← hW2]; exact World.alloc_heap_new _ _
    rw [hW2]
    clear hW2 HK1 hC0 hC1 hC2 hC3
    obtain ⟨gB, hgB⟩ : ∃ gB, w1.heap.size = gB := ⟨_, rfl⟩
    rw [hgB] at hKK ⊢
    clear hgB
    have HHB := Lib.hid hb
    have HG := Lib.hid hg
    clear hb hg
    refine reg_invW (fun d a W => a = { tmps := #[bookV b p cap, Value.int IntKind.i64 ↑x, Value.pointer (some { block := w.heap.size, off := 0 }), undef, Value.pointer (some { block := w.heap.size + 1, off := 0 }), (bif d 8 then Value.int IntKind.i64 (apE b) else Value.int IntKind.i64 0), Value.int IntKind.i64 0, Value.pointer (some { block := gB, off := 0 }), Value.agg #[Value.int IntKind.i64 b.lo, Value.int IntKind.i64 b.hi, Value.int IntKind.i64 b.lots, Value.slice p b.n cap], Value.int IntKind.i64 ↑x, Value.slice (some { block := w.heap.size + 1 + 1, off := 0 }) 1 1, Value.int IntKind.i64 0, Value.int IntKind.i64 0, Value.bool false, undef, undef, Value.agg #[Value.int IntKind.i64 b.lo, Value.int IntKind.i64 b.hi, Value.int IntKind.i64 b.lots, Value.slice p b.n cap], Value.agg #[Value.int IntKind.i64 b.lo, Value.int IntKind.i64 b.hi, Value.int IntKind.i64 b.lots, Value.slice p b.n cap], (bif d 0 then Value.agg #[Value.int IntKind.i64 b.lo, Value.int IntKind.i64 b.hi, Value.int IntKind.i64 b.lots, Value.slice p b.n cap] else undef), (bif d 1 then Value.agg #[Value.int IntKind.i64 b.lo, Value.int IntKind.i64 b.hi, Value.int IntKind.i64 b.lots, Value.slice p b.n cap] else undef), (bif d 2 then Value.int IntKind.i64 ↑x else undef), (bif d 3 then Value.int IntKind.i64 ((1 + x : Nat) : Int) else undef), (bif d 4 then Value.tuple #[Value.agg #[Value.int IntKind.i64 (apLo b (1 + x) 0), Value.int IntKind.i64 (apHi b (1 + x) 0)], Value.int IntKind.i64 (apE b)] else undef), (bif d 5 then Value.agg #[Value.int IntKind.i64 (apLo b (1 + x) 0), Value.int IntKind.i64 (apHi b (1 + x) 0)] else undef), (bif d 6 then Value.int IntKind.i64 (apE b) else undef)], defers := [] } ∧ (d 7 = false → Kept w [(w.heap.size + 1, .cells #[.int .i64 0, .int .i64 0] 23), (gB, .cells (bookC b p cap) 82)] W) ∧ (d 7 = true → Pure w W ∧ W.cell? ⟨w.heap.size + 1, 0, none⟩ = some (.int .i64 (apLo b (1 + x) 0)) ∧ W.cell? ⟨w.heap.size + 1, 1, none⟩ = some (.int .i64 (apHi b (1 + x) 0)))) hmx (by kernel_rfl) ?_ ?_ ?_
    · exact ⟨rfl, fun _ => hKK.pure (Diff.refl _).drew, fun h => by cases h⟩
    · refine ⟨?_, ?_, ?_, ?_, ?_, ?_, ?_, ?_, ?_, trivial⟩
      · rintro d a W hdi hdep hcl ⟨rfl, hw⟩ K hK
        replace hdi : d 0 = false := hdi
        obtain ⟨-, -, f4, f5, f6, f7, f8, -⟩ := hcl.facts 0 hdi rfl hdep [] [4, 5, 6, 7, 8] (by kernel_rfl) (by kernel_rfl)
        clear hdep hcl
        have hr := (hw.1 f7).objs (gB, .cells (bookC b p cap) 82) (by simp)
        have z0 : W.cell? ⟨gB, 0, none⟩ = some (.int .i64 b.lo) := by rw [cell_of_row W _ _ _ _ _ hr]; rfl
        have z1 : W.cell? ⟨gB, 1, none⟩ = some (.int .i64 b.hi) := by rw [cell_of_row W _ _ _ _ _ hr]; rfl
        have z2 : W.cell? ⟨gB, 2, none⟩ = some (.int .i64 b.lots) := by rw [cell_of_row W _ _ _ _ _ hr]; rfl
        have z3 : W.cell? ⟨gB, 3, none⟩ = some (.slice p b.n cap) := by rw [cell_of_row W _ _ _ _ _ hr]; rfl
        clear hr
        go_simp
        exact hK _ _ ⟨by simp [upd, hdi, f4, f5, f6, f7, f8], by simpa [upd] using hw⟩
      · rintro d a W hdi hdep hcl ⟨rfl, hw⟩ K hK
        replace hdi : d 1 = false := hdi
        obtain ⟨-, -, f3, f4, f5, f6, f7, f8, -⟩ := hcl.facts 1 hdi rfl hdep [] [3, 4, 5, 6, 7, 8] (by kernel_rfl) (by kernel_rfl)
        clear hdep hcl
        have hr := (hw.1 f7).objs (gB, .cells (bookC b p cap) 82) (by simp)
        have z0 : W.cell? ⟨gB, 0, none⟩ = some (.int .i64 b.lo) := by rw [cell_of_row W _ _ _ _ _ hr]; rfl
        have z1 : W.cell? ⟨gB, 1, none⟩ = some (.int .i64 b.hi) := by rw [cell_of_row W _ _ _ _ _ hr]; rfl
        have z2 : W.cell? ⟨gB, 2, none⟩ = some (.int .i64 b.lots) := by rw [cell_of_row W _ _ _ _ _ hr]; rfl
        have z3 : W.cell? ⟨gB, 3, none⟩ = some (.slice p b.n cap) := by rw [cell_of_row W _ _ _ _ _ hr]; rfl
        clear hr
        go_simp
        exact hK _ _ ⟨by simp [upd, hdi, f3, f4, f5, f6, f7, f8], by simpa [upd] using hw⟩
      · rintro d a W hdi hdep hcl ⟨rfl, hw⟩ K hK
        replace hdi : d 2 = false := hdi
        obtain ⟨-, -, f3, f4, f5, f6, f7, f8, -⟩ := hcl.facts 2 hdi rfl hdep [] [3, 4, 5, 6, 7, 8] (by kernel_rfl) (by kernel_rfl)
        clear hdep hcl
        go_simp
        exact hK _ _ ⟨by simp [upd, hdi, f3, f4, f5, f6, f7, f8], by simpa [upd] using hw⟩
      · rintro d a W hdi hdep hcl ⟨rfl, hw⟩ K hK
        replace hdi : d 3 = false := hdi
        obtain ⟨-, ⟨e1, e2, -⟩, f4, f5, f6, f7, f8, -⟩ := hcl.facts 3 hdi rfl hdep [1, 2] [4, 5, 6, 7, 8] (by kernel_rfl) (by kernel_rfl)
        clear hdep hcl
        go_simp
        refine (lotName_any _ _ _ _ _ (x : Int) (by omega) (by omega)).mono ?_
        rintro e w' ⟨rfl, hp⟩
        rw [show (1 : Int) + (x : Int) = ((1 + x : Nat) : Int) by omega]
        exact hK _ _ ⟨by simp [upd, hdi, e1, e2, f4, f5, f6, f7, f8], fun _ => (hw.1 f7).pure hp, by simp [upd, f7]⟩
      · rintro d a W hdi hdep hcl ⟨rfl, hw⟩ K hK
        replace hdi : d 4 = false := hdi
        obtain ⟨-, ⟨e0, e1, e2, e3, -⟩, f5, f6, f7, f8, -⟩ := hcl.facts 4 hdi rfl hdep [0, 1, 2, 3] [5, 6, 7, 8] (by kernel_rfl) (by kernel_rfl)
        clear hdep hcl
        have hkp := (hw.1 f7).pw
        have hbW := (HHB.out.diff hkp (Nat.le_refl _) (fun _ _ => id)).mono hkp.size
        have hgW := HG.out.diff hkp (fun _ _ => id)
        clear hkp
        go_simp
        refine (apart72_zero W b p cap (1 + x) (by omega) hv hbW hgW).mono ?_
        rintro e w' ⟨rfl, hp⟩
        exact hK _ _ ⟨by simp [upd, hdi, e0, e1, e2, e3, f5, f6, f7, f8], fun _ => (hw.1 f7).pure hp, by simp [upd, f7]⟩
      · rintro d a W hdi hdep hcl ⟨rfl, hw⟩ K hK
        replace hdi : d 5 = false := hdi
        obtain ⟨-, ⟨e0, e1, e2, e3, e4, -⟩, f7, f8, -⟩ := hcl.facts 5 hdi rfl hdep [0, 1, 2, 3, 4] [7, 8] (by kernel_rfl) (by kernel_rfl)
        clear hdep hcl
        go_simp
        exact hK _ _ ⟨by simp [upd, hdi, e0, e1, e2, e3, e4, f7, f8], by simpa [upd] using hw⟩
      · rintro d a W hdi hdep hcl ⟨rfl, hw⟩ K hK
        replace hdi : d 6 = false := hdi
        obtain ⟨-, ⟨e0, e1, e2, e3, e4, -⟩, f7, f8, -⟩ := hcl.facts 6 hdi rfl hdep [0, 1, 2, 3, 4] [7, 8] (by kernel_rfl) (by kernel_rfl)
        clear hdep hcl
        go_simp
        exact hK _ _ ⟨by simp [upd, hdi, e0, e1, e2, e3, e4, f7, f8], by simpa [upd] using hw⟩
      · rintro d a W hdi hdep hcl ⟨rfl, hw⟩ K hK
        replace hdi : d 7 = false := hdi
        obtain ⟨-, ⟨e0, e1, e2, e3, e4, e5, e6, -⟩, f8, -⟩ := hcl.facts 7 hdi rfl hdep [0, 1, 2, 3, 4, 5, 6] [8] (by kernel_rfl) (by kernel_rfl)
        clear hdep hcl
        have hkp := hw.1 hdi
        have hr := hkp.objs (w.heap.size + 1, .cells #[.int .i64 0, .int .i64 0] 23) (by simp)
        have z0 : W.cell? ⟨w.heap.size + 1, 0, none⟩ = some (.int .i64 0) := by rw [cell_of_row W _ _ _ _ _ hr]; rfl
        have z1 : W.cell? ⟨w.heap.size + 1, 1, none⟩ = some (.int .i64 0) := by rw [cell_of_row W _ _ _ _ _ hr]; rfl
        have y0 : W.frozen? ⟨w.heap.size + 1, 0, none⟩ = false := frozen_of_row W _ _ _ _ hr
        have y1 : W.frozen? ⟨w.heap.size + 1, 1, none⟩ = false := frozen_of_row W _ _ _ _ hr
        have HPW := Lib.hid hkp.pw
        clear hr hkp
        go_simp
        exact hK _ _ ⟨by simp [upd, hdi, e0, e1, e2, e3, e4, e5, e6, f8], by simp [upd], fun _ => ⟨(HPW.out.setCell (fun h => absurd h (by simp)) _).setCell (fun h => absurd h (by simp)) _, by simp [go_sem, z0, z1], by simp [go_sem, z0, z1]⟩⟩
      · rintro d a W hdi hdep hcl ⟨rfl, hw⟩ K hK
        replace hdi : d 8 = false := hdi
        obtain ⟨-, ⟨e0, e1, e2, e3, e4, e5, e6, e7, -⟩, -⟩ := hcl.facts 8 hdi rfl hdep [0, 1, 2, 3, 4, 5, 6, 7] [] (by kernel_rfl) (by kernel_rfl)
        clear hdep hcl
        go_simp
        exact hK _ _ ⟨by simp [upd, hdi, e0, e1, e2, e3, e4, e5, e6, e7], by simpa [upd] using hw⟩
    · rintro d a W hall ⟨rfl, hw⟩
      simp [List.range_succ] at hall
      obtain ⟨e0, e1, e2, e3, e4, e5, e6, e7, e8⟩ := hall
      simp only [e0, e1, e2, e3, e4, e5, e6, e7, e8, cond_true] at hw ⊢
      clear e0 e1 e2 e3 e4 e5 e6 e7 e8
      have hr := hw.2 trivial
      clear hw
      have HPW := Lib.hid hr.1
      have z0 := hr.2.1
      have z1 := hr.2.2
      clear hr
      go_wp2_with fail
      exact bodyPost_ret (v := .tuple #[.agg #[.int .i64 (apLo b (1 + x) 0), .int .i64 (apHi b (1 + x) 0)], .int .i64 (apE b)]) (by simp [results, Tryd.results34, go_sem, z0, z1]) rfl ⟨by unfold apQ; rw [if_neg (by rw [HCK.out]; simp)]; rfl, HPW.out⟩
  · go_wp2_with fail
    exact bodyPost_ret (v := .tuple #[.agg #[.int .i64 0, .int .i64 0], .int .i64 (lotsC b (fun _ => lot) 1)]) (by simp [results, Tryd.results34, go_sem, hc3, hc4]) rfl ⟨by unfold apQ; rw [if_pos hck], (HK1.out.pw.setCell (fun h => absurd h (by simp)) _).setCell (fun h => absurd h (by simp)) _⟩

set_option maxRecDepth 20000 in
set_option maxHeartbeats 2000000 in
theorem Apart_any (w : World) (b : BK) (p : Option Addr) (cap : Nat) (one two : Int) (hs : b.Small) (hb : BookAt w.heap.size w p b) (hg : Gl w) :
    Calls Tryd.prog 36 #[bookV b p cap, .int .i64 one, .int .i64 two] w fun e w' => e = .returned (apQ b (lotsC b (fun i => if i = 0 then one else two) 2) (1 + one.toNat) (1 + two.toNat)) ∧ Pure w w' := by
  have hmx : Tryd.prog.follows .mixedOrders = true := by kernel_rfl
  go_enter Tryd.func36, Tryd.ntmps36
  go_wp2_with fail
  obtain ⟨X0, hX0⟩ : ∃ X0, (w.alloc (.cells (bookC b p cap) 26)).alloc (.cells #[.int .i64 0, .int .i64 0] 23) = X0 := ⟨_, rfl⟩
  have hs0 : X0.heap.size = w.heap.size + 2 := by rw [← hX0]; simp
  have hP0 : Pure w X0 := by rw [← hX0]; exact ((Diff.refl w).alloc _).alloc _
  have hB0 : X0.heap[w.heap.size]? = some (.cells (bookC b p cap) 26 (0, 0)) := by rw [← hX0]; exact (Below.heap_alloc _ _ _ (by simp)).trans (World.alloc_heap_new _ _)
  have hR0 : X0.heap[w.heap.size + 1]? = some (.cells #[.int .i64 0, .int .i64 0] 23 (0, 0)) := by
    rw [← hX0]
    have := World.alloc_heap_new (w.alloc (.cells (bookC b p cap) 26)) (.cells #[.int .i64 0, .int .i64 0] 23)
    rwa [World.size_alloc] at this
  have hrow := row_new X0 #[.int .i64 one, .int .i64 two] 3 2 (w.heap.size + 2) (fun k => .int .i64 (if k = 0 then one else two)) hs0.symm (fun k hk => by match k, hk with | 0, _ => rfl | 1, _ => rfl)
  rw [hX0]
  clear hX0
  obtain ⟨X, hX⟩ : ∃ X, X0.alloc (.cells #[.int .i64 one, .int .i64 two] 3) = X := ⟨_, rfl⟩
  have hPX : Pure X0 X := by rw [← hX]; exact (Diff.refl X0).alloc _
  rw [hX] at hrow ⊢
  clear hX
  have hP1 : Pure w X := hP0.trans hPX
  have hK : Kept w [(w.heap.size, .cells (bookC b p cap) 26), (w.heap.size + 1, .cells #[.int .i64 0, .int .i64 0] 23)] X := by
    refine Kept.pure ⟨hP0, ?_⟩ hPX
    intro x hx
    simp only [List.mem_cons, List.mem_nil_iff, or_false] at hx
    rcases hx with rfl | rfl
    · exact hB0
    · exact hR0
  refine (checkLots_any X b p (some ⟨w.heap.size + 2, 0, none⟩) cap 2 2 (fun i => if i = 0 then one else two) hs ((hb.diff hP1 (Nat.le_refl _) (fun _ _ => id)).mono hP1.size) (hg.diff hP1 (fun _ _ => id)) (by omega) hrow).mono ?_
  rintro e w1 ⟨rfl, hp1⟩
  have HK1 := Lib.hid (hK.pure hp1)
  have hR := HK1.out.objs (w.heap.size + 1, .cells #[.int .i64 0, .int .i64 0] 23) (by simp)
  have hf3 : w1.frozen? ⟨w.heap.size + 1, 0, none⟩ = false := frozen_of_row w1 _ _ _ _ hR
  have hf4 : w1.frozen? ⟨w.heap.size + 1, 1, none⟩ = false := frozen_of_row w1 _ _ _ _ hR
  have hc3 : w1.cell? ⟨w.heap.size + 1, 0, none⟩ = some (.int .i64 0) := by rw [cell_of_row w1 _ _ _ _ _ hR]; rfl
  have hc4 : w1.cell? ⟨w.heap.size + 1, 1, none⟩ = some (.int .i64 0) := by rw [cell_of_row w1 _ _ _ _ _ hR]; rfl
  have hX1 := HK1.out.objs (w.heap.size, .cells (bookC b p cap) 26) (by simp)
  have hC0 : w1.cell? ⟨w.heap.size, 0, none⟩ = some (.int .i64 b.lo) := by rw [cell_of_row w1 _ _ _ _ _ hX1]; rfl
  have hC1 : w1.cell? ⟨w.heap.size, 1, none⟩ = some (.int .i64 b.hi) := by rw [cell_of_row w1 _ _ _ _ _ hX1]; rfl
  have hC2 : w1.cell? ⟨w.heap.size, 2, none⟩ = some (.int .i64 b.lots) := by rw [cell_of_row w1 _ _ _ _ _ hX1]; rfl
  have hC3 : w1.cell? ⟨w.heap.size, 3, none⟩ = some (.slice p b.n cap) := by rw [cell_of_row w1 _ _ _ _ _ hX1]; rfl
  clear hR hX1 hp1 hrow hK hP0 hPX hP1 hs0 hB0 hR0
  by_cases hck : lotsC b (fun i => if i = 0 then one else two) 2 = 0
  · have HCK := Lib.hid hck
    rw [hck]
    clear hck hf3 hf4 hc3 hc4
    obtain ⟨hv, hlots⟩ := lotsC_ok HCK.out
    have hl6 := hv.lots6
    obtain ⟨h0, h1⟩ := hlots 0 (by omega)
    obtain ⟨h2, h3⟩ := hlots 1 (by omega)
    rw [if_pos rfl] at h0 h1
    rw [if_neg (by omega)] at h2 h3
    obtain ⟨x, hx⟩ := Int.eq_ofNat_of_zero_le h0
    obtain ⟨y, hy⟩ := Int.eq_ofNat_of_zero_le h2
    subst hx
    subst hy
    clear hlots h0 h2
    go_wp2_with fail
    obtain ⟨W2, hW2⟩ : ∃ W2, w1.alloc (.cells (bookC b p cap) 82) = W2 := ⟨_, rfl⟩
    have hKK : Kept w [(w.heap.size + 1, .cells #[.int .i64 0, .int .i64 0] 23), (w1.heap.size, .cells (bookC b p cap) 82)] W2 := by
      have h1 := HK1.out.pure (wr' := W2) (by rw [← hW2]; exact (Diff.refl _).alloc _)
      refine ⟨h1.pw, ?_⟩
      intro x hx
      simp only [List.mem_cons, List.mem_nil_iff, or_false] at hx
      rcases hx with rfl | rfl
      · exact h1.objs (w.heap.size + 1, .cells #[.int .i64 0, .int .i64 0] 23) (by simp)
      · rw [← hW2]; exact World.alloc_heap_new _ _
    rw [hW2]
    clear hW2 HK1 hC0 hC1 hC2 hC3
    obtain ⟨gB, hgB⟩ : ∃ gB, w1.heap.size = gB := ⟨_, rfl⟩
    rw [hgB] at hKK ⊢
    clear hgB
    have HHB := Lib.hid hb
    have HG := Lib.hid hg
    clear hb hg
    refine reg_invW (fun d a W => a = { tmps := #[bookV b p cap, Value.int IntKind.i64 ↑x, Value.int IntKind.i64 ↑y, Value.pointer (some { block := w.heap.size, off := 0 }), undef, undef, Value.pointer (some { block := w.heap.size + 1, off := 0 }), (bif d 11 then Value.int IntKind.i64 (apE b) else Value.int IntKind.i64 0), Value.int IntKind.i64 0, Value.pointer (some { block := gB, off := 0 }), Value.agg #[Value.int IntKind.i64 b.lo, Value.int IntKind.i64 b.hi, Value.int IntKind.i64 b.lots, Value.slice p b.n cap], Value.int IntKind.i64 ↑x, Value.int IntKind.i64 ↑y, Value.slice (some { block := w.heap.size + 1 + 1, off := 0 }) 2 2, Value.int IntKind.i64 0, Value.int IntKind.i64 0, Value.bool false, undef, undef, Value.agg #[Value.int IntKind.i64 b.lo, Value.int IntKind.i64 b.hi, Value.int IntKind.i64 b.lots, Value.slice p b.n cap], Value.agg #[Value.int IntKind.i64 b.lo, Value.int IntKind.i64 b.hi, Value.int IntKind.i64 b.lots, Value.slice p b.n cap], (bif d 0 then Value.agg #[Value.int IntKind.i64 b.lo, Value.int IntKind.i64 b.hi, Value.int IntKind.i64 b.lots, Value.slice p b.n cap] else undef), (bif d 1 then Value.agg #[Value.int IntKind.i64 b.lo, Value.int IntKind.i64 b.hi, Value.int IntKind.i64 b.lots, Value.slice p b.n cap] else undef), (bif d 2 then Value.int IntKind.i64 ↑x else undef), (bif d 3 then Value.int IntKind.i64 ((1 + x : Nat) : Int) else undef), (bif d 4 then Value.agg #[Value.int IntKind.i64 b.lo, Value.int IntKind.i64 b.hi, Value.int IntKind.i64 b.lots, Value.slice p b.n cap] else undef), (bif d 5 then Value.int IntKind.i64 ↑y else undef), (bif d 6 then Value.int IntKind.i64 ((1 + y : Nat) : Int) else undef), (bif d 7 then Value.tuple #[Value.agg #[Value.int IntKind.i64 (apLo b (1 + x) (1 + y)), Value.int IntKind.i64 (apHi b (1 + x) (1 + y))], Value.int IntKind.i64 (apE b)] else undef), (bif d 8 then Value.agg #[Value.int IntKind.i64 (apLo b (1 + x) (1 + y)), Value.int IntKind.i64 (apHi b (1 + x) (1 + y))] else undef), (bif d 9 then Value.int IntKind.i64 (apE b) else undef)], defers := [] } ∧ (d 10 = false → Kept w [(w.heap.size + 1, .cells #[.int .i64 0, .int .i64 0] 23), (gB, .cells (bookC b p cap) 82)] W) ∧ (d 10 = true → Pure w W ∧ W.cell? ⟨w.heap.size + 1, 0, none⟩ = some (.int .i64 (apLo b (1 + x) (1 + y))) ∧ W.cell? ⟨w.heap.size + 1, 1, none⟩ = some (.int .i64 (apHi b (1 + x) (1 + y))))) hmx (by kernel_rfl) ?_ ?_ ?_
    · exact ⟨rfl, fun _ => hKK.pure (Diff.refl _).drew, fun h => by cases h⟩
    · refine ⟨?_, ?_, ?_, ?_, ?_, ?_, ?_, ?_, ?_, ?_, ?_, ?_, trivial⟩
      · rintro d a W hdi hdep hcl ⟨rfl, hw⟩ K hK
        replace hdi : d 0 = false := hdi
        obtain ⟨-, -, f7, f8, f9, f10, f11, -⟩ := hcl.facts 0 hdi rfl hdep [] [7, 8, 9, 10, 11] (by kernel_rfl) (by kernel_rfl)
        clear hdep hcl
        have hr := (hw.1 f10).objs (gB, .cells (bookC b p cap) 82) (by simp)
        have z0 : W.cell? ⟨gB, 0, none⟩ = some (.int .i64 b.lo) := by rw [cell_of_row W _ _ _ _ _ hr]; rfl
        have z1 : W.cell? ⟨gB, 1, none⟩ = some (.int .i64 b.hi) := by rw [cell_of_row W _ _ _ _ _ hr]; rfl
        have z2 : W.cell? ⟨gB, 2, none⟩ = some (.int .i64 b.lots) := by rw [cell_of_row W _ _ _ _ _ hr]; rfl
        have z3 : W.cell? ⟨gB, 3, none⟩ = some (.slice p b.n cap) := by rw [cell_of_row W _ _ _ _ _ hr]; rfl
        clear hr
        go_simp
        exact hK _ _ ⟨by simp [upd, hdi, f7, f8, f9, f10, f11], by simpa [upd] using hw⟩
      · rintro d a W hdi hdep hcl ⟨rfl, hw⟩ K hK
        replace hdi : d 1 = false := hdi
        obtain ⟨-, -, f3, f6, f7, f8, f9, f10, f11, -⟩ := hcl.facts 1 hdi rfl hdep [] [3, 6, 7, 8, 9, 10, 11] (by kernel_rfl) (by kernel_rfl)
        clear hdep hcl
        have hr := (hw.1 f10).objs (gB, .cells (bookC b p cap) 82) (by simp)
        have z0 : W.cell? ⟨gB, 0, none⟩ = some (.int .i64 b.lo) := by rw [cell_of_row W _ _ _ _ _ hr]; rfl
        have z1 : W.cell? ⟨gB, 1, none⟩ = some (.int .i64 b.hi) := by rw [cell_of_row W _ _ _ _ _ hr]; rfl
        have z2 : W.cell? ⟨gB, 2, none⟩ = some (.int .i64 b.lots) := by rw [cell_of_row W _ _ _ _ _ hr]; rfl
        have z3 : W.cell? ⟨gB, 3, none⟩ = some (.slice p b.n cap) := by rw [cell_of_row W _ _ _ _ _ hr]; rfl
        clear hr
        go_simp
        exact hK _ _ ⟨by simp [upd, hdi, f3, f6, f7, f8, f9, f10, f11], by simpa [upd] using hw⟩
      · rintro d a W hdi hdep hcl ⟨rfl, hw⟩ K hK
        replace hdi : d 2 = false := hdi
        obtain ⟨-, -, f3, f6, f7, f8, f9, f10, f11, -⟩ := hcl.facts 2 hdi rfl hdep [] [3, 6, 7, 8, 9, 10, 11] (by kernel_rfl) (by kernel_rfl)
        clear hdep hcl
        go_simp
        exact hK _ _ ⟨by simp [upd, hdi, f3, f6, f7, f8, f9, f10, f11], by simpa [upd] using hw⟩
      · rintro d a W hdi hdep hcl ⟨rfl, hw⟩ K hK
        replace hdi : d 3 = false := hdi
        obtain ⟨-, ⟨e1, e2, -⟩, f6, f7, f8, f9, f10, f11, -⟩ := hcl.facts 3 hdi rfl hdep [1, 2] [6, 7, 8, 9, 10, 11] (by kernel_rfl) (by kernel_rfl)
        clear hdep hcl
        go_simp
        refine (lotName_any _ _ _ _ _ (x : Int) (by omega) (by omega)).mono ?_
        rintro e w' ⟨rfl, hp⟩
        rw [show (1 : Int) + (x : Int) = ((1 + x : Nat) : Int) by omega]
        exact hK _ _ ⟨by simp [upd, hdi, e1, e2, f6, f7, f8, f9, f10, f11], fun _ => (hw.1 f10).pure hp, by simp [upd, f10]⟩
      · rintro d a W hdi hdep hcl ⟨rfl, hw⟩ K hK
        replace hdi : d 4 = false := hdi
        obtain ⟨-, -, f6, f7, f8, f9, f10, f11, -⟩ := hcl.facts 4 hdi rfl hdep [] [6, 7, 8, 9, 10, 11] (by kernel_rfl) (by kernel_rfl)
        clear hdep hcl
        have hr := (hw.1 f10).objs (gB, .cells (bookC b p cap) 82) (by simp)
        have z0 : W.cell? ⟨gB, 0, none⟩ = some (.int .i64 b.lo) := by rw [cell_of_row W _ _ _ _ _ hr]; rfl
        have z1 : W.cell? ⟨gB, 1, none⟩ = some (.int .i64 b.hi) := by rw [cell_of_row W _ _ _ _ _ hr]; rfl
        have z2 : W.cell? ⟨gB, 2, none⟩ = some (.int .i64 b.lots) := by rw [cell_of_row W _ _ _ _ _ hr]; rfl
        have z3 : W.cell? ⟨gB, 3, none⟩ = some (.slice p b.n cap) := by rw [cell_of_row W _ _ _ _ _ hr]; rfl
        clear hr
        go_simp
        exact hK _ _ ⟨by simp [upd, hdi, f6, f7, f8, f9, f10, f11], by simpa [upd] using hw⟩
      · rintro d a W hdi hdep hcl ⟨rfl, hw⟩ K hK
        replace hdi : d 5 = false := hdi
        obtain ⟨-, -, f6, f7, f8, f9, f10, f11, -⟩ := hcl.facts 5 hdi rfl hdep [] [6, 7, 8, 9, 10, 11] (by kernel_rfl) (by kernel_rfl)
        clear hdep hcl
        go_simp
        exact hK _ _ ⟨by simp [upd, hdi, f6, f7, f8, f9, f10, f11], by simpa [upd] using hw⟩
      · rintro d a W hdi hdep hcl ⟨rfl, hw⟩ K hK
        replace hdi : d 6 = false := hdi
        obtain ⟨-, ⟨e1, e2, e3, e4, e5, -⟩, f7, f8, f9, f10, f11, -⟩ := hcl.facts 6 hdi rfl hdep [1, 2, 3, 4, 5] [7, 8, 9, 10, 11] (by kernel_rfl) (by kernel_rfl)
        clear hdep hcl
        go_simp
        refine (lotName_any _ _ _ _ _ (y : Int) (by omega) (by omega)).mono ?_
        rintro e w' ⟨rfl, hp⟩
        rw [show (1 : Int) + (y : Int) = ((1 + y : Nat) : Int) by omega]
        exact hK _ _ ⟨by simp [upd, hdi, e1, e2, e3, e4, e5, f7, f8, f9, f10, f11], fun _ => (hw.1 f10).pure hp, by simp [upd, f10]⟩
      · rintro d a W hdi hdep hcl ⟨rfl, hw⟩ K hK
        replace hdi : d 7 = false := hdi
        obtain ⟨-, ⟨e0, e1, e2, e3, e4, e5, e6, -⟩, f8, f9, f10, f11, -⟩ := hcl.facts 7 hdi rfl hdep [0, 1, 2, 3, 4, 5, 6] [8, 9, 10, 11] (by kernel_rfl) (by kernel_rfl)
        clear hdep hcl
        have hkp := (hw.1 f10).pw
        have hbW := (HHB.out.diff hkp (Nat.le_refl _) (fun _ _ => id)).mono hkp.size
        have hgW := HG.out.diff hkp (fun _ _ => id)
        clear hkp
        go_simp
        refine (apart72_ap W b p cap (1 + x) (1 + y) (by omega) (by omega) hv hbW hgW).mono ?_
        rintro e w' ⟨rfl, hp⟩
        exact hK _ _ ⟨by simp [upd, hdi, e0, e1, e2, e3, e4, e5, e6, f8, f9, f10, f11], fun _ => (hw.1 f10).pure hp, by simp [upd, f10]⟩
      · rintro d a W hdi hdep hcl ⟨rfl, hw⟩ K hK
        replace hdi : d 8 = false := hdi
        obtain ⟨-, ⟨e0, e1, e2, e3, e4, e5, e6, e7, -⟩, f10, f11, -⟩ := hcl.facts 8 hdi rfl hdep [0, 1, 2, 3, 4, 5, 6, 7] [10, 11] (by kernel_rfl) (by kernel_rfl)
        clear hdep hcl
        go_simp
        exact hK _ _ ⟨by simp [upd, hdi, e0, e1, e2, e3, e4, e5, e6, e7, f10, f11], by simpa [upd] using hw⟩
      · rintro d a W hdi hdep hcl ⟨rfl, hw⟩ K hK
        replace hdi : d 9 = false := hdi
        obtain ⟨-, ⟨e0, e1, e2, e3, e4, e5, e6, e7, -⟩, f10, f11, -⟩ := hcl.facts 9 hdi rfl hdep [0, 1, 2, 3, 4, 5, 6, 7] [10, 11] (by kernel_rfl) (by kernel_rfl)
        clear hdep hcl
        go_simp
        exact hK _ _ ⟨by simp [upd, hdi, e0, e1, e2, e3, e4, e5, e6, e7, f10, f11], by simpa [upd] using hw⟩
      · rintro d a W hdi hdep hcl ⟨rfl, hw⟩ K hK
        replace hdi : d 10 = false := hdi
        obtain ⟨-, ⟨e0, e1, e2, e3, e4, e5, e6, e7, e8, e9, -⟩, f11, -⟩ := hcl.facts 10 hdi rfl hdep [0, 1, 2, 3, 4, 5, 6, 7, 8, 9] [11] (by kernel_rfl) (by kernel_rfl)
        clear hdep hcl
        have hkp := hw.1 hdi
        have hr := hkp.objs (w.heap.size + 1, .cells #[.int .i64 0, .int .i64 0] 23) (by simp)
        have z0 : W.cell? ⟨w.heap.size + 1, 0, none⟩ = some (.int .i64 0) := by rw [cell_of_row W _ _ _ _ _ hr]; rfl
        have z1 : W.cell? ⟨w.heap.size + 1, 1, none⟩ = some (.int .i64 0) := by rw [cell_of_row W _ _ _ _ _ hr]; rfl
        have y0 : W.frozen? ⟨w.heap.size + 1, 0, none⟩ = false := frozen_of_row W _ _ _ _ hr
        have y1 : W.frozen? ⟨w.heap.size + 1, 1, none⟩ = false := frozen_of_row W _ _ _ _ hr
        have HPW := Lib.hid hkp.pw
        clear hr hkp
        go_simp
        exact hK _ _ ⟨by simp [upd, hdi, e0, e1, e2, e3, e4, e5, e6, e7, e8, e9, f11], by simp [upd], fun _ => ⟨(HPW.out.setCell (fun h => absurd h (by simp)) _).setCell (fun h => absurd h (by simp)) _, by simp [go_sem, z0, z1], by simp [go_sem, z0, z1]⟩⟩
      · rintro d a W hdi hdep hcl ⟨rfl, hw⟩ K hK
        replace hdi : d 11 = false := hdi
        obtain ⟨-, ⟨e0, e1, e2, e3, e4, e5, e6, e7, e8, e9, e10, -⟩, -⟩ := hcl.facts 11 hdi rfl hdep [0, 1, 2, 3, 4, 5, 6, 7, 8, 9, 10] [] (by kernel_rfl) (by kernel_rfl)
        clear hdep hcl
        go_simp
        exact hK _ _ ⟨by simp [upd, hdi, e0, e1, e2, e3, e4, e5, e6, e7, e8, e9, e10], by simpa [upd] using hw⟩
    · rintro d a W hall ⟨rfl, hw⟩
      simp [List.range_succ] at hall
      obtain ⟨e0, e1, e2, e3, e4, e5, e6, e7, e8, e9, e10, e11⟩ := hall
      simp only [e0, e1, e2, e3, e4, e5, e6, e7, e8, e9, e10, e11, cond_true] at hw ⊢
      clear e0 e1 e2 e3 e4 e5 e6 e7 e8 e9 e10 e11
      have hr := hw.2 trivial
      clear hw
      have HPW := Lib.hid hr.1
      have z0 := hr.2.1
      have z1 := hr.2.2
      clear hr
      go_wp2_with fail
      exact bodyPost_ret (v := .tuple #[.agg #[.int .i64 (apLo b (1 + x) (1 + y)), .int .i64 (apHi b (1 + x) (1 + y))], .int .i64 (apE b)]) (by simp [results, Tryd.results36, go_sem, z0, z1]) rfl ⟨by unfold apQ; rw [if_neg (by rw [HCK.out]; simp)]; rfl, HPW.out⟩
  · go_wp2_with fail
    exact bodyPost_ret (v := .tuple #[.agg #[.int .i64 0, .int .i64 0], .int .i64 (lotsC b (fun i => if i = 0 then one else two) 2)]) (by simp [results, Tryd.results36, go_sem, hc3, hc4]) rfl ⟨by unfold apQ; rw [if_pos hck], (HK1.out.pw.setCell (fun h => absurd h (by simp)) _).setCell (fun h => absurd h (by simp)) _⟩
end Go.Proofs.YtmedkmbfggphdaaDoor
