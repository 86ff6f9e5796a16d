/- The law's helpers: fine, number. No condition. -/
import Derived.Test.YtmedkmbfggphdaaDoorT0
import Derived.Test.YtmedkmbfggphdaaDoorN1
set_option linter.unusedSimpArgs false
set_option linter.unusedVariables false
set_option linter.constructorNameAsVariable false
namespace Go.Proofs.YtmedkmbfggphdaaDoor
open Go.RowKit

/-- One of n numbers, round; 0 if there is none. -/
def numU (f : Nat → Int) (n a : Nat) : Int := if n = 0 then 0 else f (a % n)
theorem numU_in {f : Nat → Int} {n : Nat} (h : ∀ i, i < n → 0 ≤ f i ∧ f i ≤ 65535) (a : Nat) : 0 ≤ numU f n a ∧ numU f n a ≤ 65535 := by
  unfold numU
  split
  · omega
  · exact h _ (Nat.mod_lt _ (by omega))
theorem number_any (w : World) (q : Option Addr) (n c : Nat) (f : Nat → Int) (a : Nat) (x : Int) (hx : x = (a : Int)) (hn : n ≤ 1000) (ha : a ≤ 1000) (hf : ∀ i, i < n → 0 ≤ f i ∧ f i ≤ 65535) (hr : Row w.heap.size w q n fun k => .int .u16 (f k)) :
    Calls Tryd.prog 88 #[.slice q n c, .int .i64 x] w fun e w' => e = .returned (.int .i64 (numU f n a)) ∧ w = w' := by
  subst hx
  by_cases h0 : n = 0
  · subst h0
    go_enter Tryd.func88, Tryd.ntmps88
    go_wp2_with fail
    exact bodyPost_ret (v := .int .i64 0) (by simp [results, Tryd.results88, go_sem]) rfl ⟨rfl, rfl⟩
  · obtain ⟨m, hm⟩ : ∃ m, a % n = m := ⟨_, rfl⟩
    have hmn : m < n := by rw [← hm]; exact Nat.mod_lt _ (by omega)
    obtain ⟨b, o, rfl, hb, hc⟩ := hr m hmn
    obtain ⟨h1, h2⟩ := hf m hmn
    have HU : Hid (numU f n a = f m) := by show _ = _; unfold numU; rw [if_neg h0, hm]
    have hmod : (a : Int).tmod (n : Int) = (m : Int) := by
      rw [Int.tmod_eq_emod_of_nonneg (by omega), ← hm]
      rfl
    have hmi : (m : Int) < n := by omega
    have hm0 : (0 : Int) ≤ m := by omega
    have hn0 : ¬ (n : Int) = 0 := by omega
    obtain ⟨v, hv⟩ : ∃ v, f m = v := ⟨_, rfl⟩
    have hc' : w.cell? ⟨b, o + m, none⟩ = some (.int .u16 v) := by rw [hc, ← hv]
    rw [hv] at h1 h2 HU
    clear hv hm hc
    go_enter Tryd.func88, Tryd.ntmps88
    go_wp2_with fail
    exact bodyPost_ret (v := .int .i64 v) (by simp [results, Tryd.results88, go_sem]) rfl ⟨by rw [HU.out], rfl⟩

theorem most_le {b : BK} (h : b.Small) : ∀ n, n ≤ b.n → b.most n ≤ 16
  | 0, _ => by simp [BK.most]
  | n + 1, hn => by
    have := most_le h n (by omega)
    have := h.2 n (by omega)
    simp only [BK.most]; omega
def fineB (b : BK) : Bool := !(hugeB b) && (checkB b == 0)
theorem fineB_iff {b : BK} : fineB b = true ↔ b.Small ∧ checkB b = 0 := by
  unfold fineB
  simp only [Bool.and_eq_true, Bool.not_eq_true', beq_iff_eq]
  constructor
  · rintro ⟨h1, h2⟩; exact ⟨small_of_huge h1, h2⟩
  · rintro ⟨h1, h2⟩
    refine ⟨?_, h2⟩
    cases hh : hugeB b with
    | false => rfl
    | true =>
      exfalso
      unfold hugeB at hh
      have := h1.1
      rw [if_neg (by omega)] at hh
      have := most_le h1 b.n (Nat.le_refl _)
      simp at hh; omega
set_option maxRecDepth 20000 in
theorem fine_any (w : World) (b : BK) (p : Option Addr) (cap : Nat) (hb : BookAt w.heap.size w p b) :
    Calls Tryd.prog 47 #[bookV b p cap] w fun e w' => e = .returned (.bool (fineB b)) ∧ Pure w w' := by
  have HB := Lib.hid hb
  clear hb
  go_enter Tryd.func47, Tryd.ntmps47
  go_wp2_with fail
  obtain ⟨X, hX⟩ : ∃ X, w.alloc (.cells (bookC b p cap) 26) = X := ⟨_, rfl⟩
  have hP : Hid (Pure w X) := by rw [← hX]; exact (Diff.refl w).alloc _
  have hX1 : BoxB w.heap.size b p cap X := by rw [← hX]; exact BoxB.new w b p cap 26
  obtain ⟨g0, hg0⟩ : ∃ g, w.heap.size = g := ⟨_, rfl⟩
  rw [hX]
  rw [hg0] at hX1 ⊢
  clear hX hg0
  have H0 := Lib.hid hX1
  obtain ⟨c0, c1, c2, c3, cl⟩ := hX1
  go_wp2_with fail
  refine (great_any X b p cap (HB.out.to hP.out)).mono ?_
  rintro e w1 ⟨rfl, hp1⟩
  have hP1 : Hid (Pure w w1) := hP.out.trans hp1
  have H1 := Lib.hid (H0.out.pure hp1)
  clear c0 c1 c2 c3 cl hp1 hP H0
  obtain ⟨c0, c1, c2, c3, cl⟩ := H1.out
  cases hgr : hugeB b with
  | true =>
    go_wp2_with fail
    exact bodyPost_ret (v := .bool false) (by simp [results, Tryd.results47, go_sem]) rfl ⟨by unfold fineB; rw [hgr]; rfl, hP1.out⟩
  | false =>
    have hs := small_of_huge hgr
    go_wp2_with fail
    refine (RCheckBook_any w1 b p cap hs (HB.out.to hP1.out)).mono ?_
    rintro e w2 ⟨rfl, hp2⟩
    have hP2 : Hid (Pure w w2) := hP1.out.trans hp2
    clear hp2
    go_wp2_with fail
    exact bodyPost_ret (v := .bool (checkB b == 0)) (by simp [results, Tryd.results47, go_sem]) rfl ⟨by unfold fineB; rw [hgr]; rfl, hP2.out⟩
end Go.Proofs.YtmedkmbfggphdaaDoor
