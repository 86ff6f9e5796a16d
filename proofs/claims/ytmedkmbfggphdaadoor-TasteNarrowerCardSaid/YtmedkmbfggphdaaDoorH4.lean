/- The law's helpers: alikeBook. No condition. -/
import Derived.Test.YtmedkmbfggphdaaDoorR5
set_option linter.unusedSimpArgs false
set_option linter.unusedVariables false
set_option linter.constructorNameAsVariable false
namespace Go.Proofs.YtmedkmbfggphdaaDoor
open Go.RowKit

set_option maxRecDepth 20000 in
set_option maxHeartbeats 8000000 in
theorem alikeBook_any (w : World) (b : BK) (p p' : Option Addr) (cap cap' : Nat) (hs : b.Small) (hb : BookAt w.heap.size w p b) (hb' : BookAt w.heap.size w p' b) :
    Calls Tryd.prog 27 #[bookV b p cap, bookV b p' cap'] w fun e w' => e = .returned (.bool true) ∧ Pure w w' := by
  have hmx : Tryd.prog.follows .mixedOrders = true := by kernel_rfl
  have hn := hs.1
  go_enter Tryd.func27, Tryd.ntmps27
  go_wp2_with fail
  obtain ⟨X, hX⟩ : ∃ X, (w.alloc (.cells (bookC b p cap) 26)).alloc (.cells (bookC b p' cap') 26) = X := ⟨_, rfl⟩
  have HP : Hid (Pure w X) := by rw [← hX]; exact ((Diff.refl w).alloc _).alloc _
  have h0 : BoxB w.heap.size b p cap X := by rw [← hX]; exact (BoxB.new w b p cap 26).pure ((Diff.refl _).alloc _)
  have h1 : BoxB (w.heap.size + 1) b p' cap' X := by rw [← hX]; have := BoxB.new (w.alloc (.cells (bookC b p cap) 26)) b p' cap' 26; rwa [World.size_alloc] at this
  rw [hX]
  clear hX
  obtain ⟨g0, hg0⟩ : ∃ g, w.heap.size = g := ⟨_, rfl⟩
  obtain ⟨g1, hg1⟩ : ∃ g, g0 + 1 = g := ⟨_, rfl⟩
  have HB : Hid (BookAt w.heap.size w p b) := hb
  have HB' : Hid (BookAt w.heap.size w p' b) := hb'
  rw [hg0] at h0 h1 ⊢
  rw [hg1] at h1 ⊢
  clear hg0 hg1 hb hb'
  have H0 := Lib.hid h0
  have H1 := Lib.hid h1
  obtain ⟨a0, a1, a2, a3, al⟩ := h0
  obtain ⟨b0, b1, b2, b3, bl⟩ := h1
  go_wp2_with fail
  go_loopw [5] (fun i wr => ∃ k : Nat, k ≤ b.n ∧ i = .int .i64 k ∧ Hid (Pure X wr)) (fun i _ => b.n - (intOf i).toNat)
  case atStart => exact ⟨0, Nat.zero_le _, rfl, Diff.refl _⟩
  case round =>
    obtain ⟨k, hk, rfl, HPr⟩ := hrel
    clear a0 a1 a2 a3 al b0 b1 b2 b3 bl
    obtain ⟨a0, a1, a2, a3, al⟩ := H0.out.pure HPr.out
    obtain ⟨b0, b1, b2, b3, bl⟩ := H1.out.pure HPr.out
    by_cases hkn : k < b.n
    · obtain ⟨sb, so, q, c, rfl, hsb, hc, hsit⟩ := HB.out k hkn
      obtain ⟨tb, to', q', c', rfl, htb, hc', hsit'⟩ := HB'.out k hkn
      have yc := ((pcell (HP.out.trans HPr.out)).1 _ _ hsb).trans hc
      have yc' := ((pcell (HP.out.trans HPr.out)).1 _ _ htb).trans hc'
      have hki : (k : Int) < b.n := by omega
      have hk0 : (0 : Int) ≤ k := by omega
      have HS := Lib.hid hsit
      have HS' := Lib.hid hsit'
      have hm := hs.2 k hkn
      have HC := Lib.hid hc
      have HC' := Lib.hid hc'
      clear hc hc' hsit hsit'
      go_wp2_with fail
      go_region
      go_wp2_with fail
      obtain ⟨W, hW⟩ : ∃ W, wr.drew = W := ⟨_, rfl⟩
      have HPW : Hid (Pure X W) := by rw [← hW]; exact HPr.out.trans (Diff.refl _).drew
      have HWr : Hid (Pure wr W) := by rw [← hW]; exact (Diff.refl _).drew
      rw [hW]
      clear hW
      clear a0 a1 a2 a3 al b0 b1 b2 b3 bl yc yc'
      go_loopw [6] (fun j wj => ∃ g : Nat, g ≤ b.m k ∧ j = .int .i64 g ∧ Hid (Pure W wj)) (fun j _ => b.m k - (intOf j).toNat)
      case atStart => exact ⟨0, Nat.zero_le _, rfl, Diff.refl _⟩
      case round =>
        obtain ⟨g, hg, rfl, HPj⟩ := hrel
        have HXj : Hid (Pure X wr) := HPW.out.trans HPj.out
        have HWj : Hid (Pure w wr) := HP.out.trans HXj.out
        obtain ⟨a0, a1, a2, a3, al⟩ := H0.out.pure HXj.out
        obtain ⟨b0, b1, b2, b3, bl⟩ := H1.out.pure HXj.out
        have yc := ((pcell HWj.out).1 _ _ hsb).trans HC.out
        have yc' := ((pcell HWj.out).1 _ _ htb).trans HC'.out
        have hk0 : (0 : Int) ≤ k := by omega
        have hki : (k : Int) < b.n := by omega
        by_cases hgm : g < b.m k
        · obtain ⟨cb, co, rfl, hcb, s1, s2, s3⟩ := HS.out g hgm
          obtain ⟨db, dd, rfl, hdb, t1, t2, t3⟩ := HS'.out g hgm
          have s1' := ((pcell HWj.out).1 _ _ hcb).trans s1
          have s2' := ((pcell HWj.out).1 _ _ hcb).trans s2
          have s3' := ((pcell HWj.out).1 _ _ hcb).trans s3
          have t1' := ((pcell HWj.out).1 _ _ hdb).trans t1
          have t2' := ((pcell HWj.out).1 _ _ hdb).trans t2
          have t3' := ((pcell HWj.out).1 _ _ hdb).trans t3
          have hgi : (g : Int) < b.m k := by omega
          have hg0 : (0 : Int) ≤ g := by omega
          clear s1 s2 s3 t1 t2 t3
          go_wp2_with fail
          go_region
          go_wp2_with fail
          exact ⟨⟨g + 1, by omega, by push_cast; rfl, HPj.out.trans (Diff.refl _).drew⟩, by simp only [intOf]; omega⟩
        · obtain rfl : g = b.m k := by omega
          go_wp2_with fail
          exact ⟨⟨k + 1, by omega, by push_cast; rfl, HPW.out.trans HPj.out⟩, by simp only [intOf]; omega⟩
    · obtain rfl : k = b.n := by omega
      go_wp2_with fail
      exact bodyPost_ret (v := .bool true) (by simp [results, Tryd.results27, go_sem]) rfl ⟨rfl, HP.out.trans HPr.out⟩
end Go.Proofs.YtmedkmbfggphdaaDoor
