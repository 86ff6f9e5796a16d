/- The walk of tighten. -/
import Derived.Test.YtmedkmbfggphdaaDoorM01
import Derived.Test.YtmedkmbfggphdaaDoorK4
import Derived.Maps.RangeRun
import Derived.Deep.RegionHeld3
set_option linter.unusedSimpArgs false
set_option linter.unusedVariables false
set_option linter.constructorNameAsVariable false
namespace Go.Proofs.YtmedkmbfggphdaaDoor
open Go.RowKit
open Go.ChangeMaps (setBlock)

theorem diagT_succ (n : Nat) (hn : n < 19) : setF (diagT n) (n * 19 + n) ⟨0, true⟩ = diagT (n + 1) := by
  funext k
  unfold setF diagT
  by_cases h : k = n * 19 + n
  · subst h
    have e1 : (n * 19 + n) / 19 = n := by omega
    have e2 : (n * 19 + n) % 19 = n := by omega
    simp [e1, e2]
  · by_cases h2 : k / 19 = k % 19 ∧ k / 19 < n
    · rw [if_neg h, if_pos h2, if_pos ⟨h2.1, by omega⟩]
    · by_cases h3 : k / 19 = k % 19 ∧ k / 19 < n + 1
      · omega
      · rw [if_neg h, if_neg h2, if_neg h3]

/-- What tighten keeps: both tables in memory, the map as it was. -/
structure TC (w : World) (r : Nat) (es : List ME) (clock : Nat) (f : Nat → Bd) (wr : World) : Prop where
  t2 : TabAt wr w.heap.size (fun _ => bd0)
  t3 : TabAt wr (w.heap.size + 1) f
  mp : wr.heap[r]? = some (mapO es clock)
  df : Pure w wr

theorem TC.set {w : World} {r : Nat} {es : List ME} {clock : Nat} {f f' : Nat → Bd} {wr : World} (h : TC w r es clock f wr) (hr : r < w.heap.size) {g3 o1 o2 : Nat} (hg : w.heap.size + 1 = g3) {u1 u2 : Value}
    (hs : TabAt ((wr.setCell ⟨g3, o1, none⟩ u1).setCell ⟨g3, o2, none⟩ u2) g3 f') : TC w r es clock f' ((wr.setCell ⟨g3, o1, none⟩ u1).setCell ⟨g3, o2, none⟩ u2) := by
  have ho : ∀ k, k ≠ g3 → ((wr.setCell ⟨g3, o1, none⟩ u1).setCell ⟨g3, o2, none⟩ u2).heap[k]? = wr.heap[k]? := fun k hk => (heap_setCell_other _ _ _ _ hk).trans (heap_setCell_other _ _ _ _ hk)
  exact ⟨(ho _ (by omega)).trans h.t2, by rw [hg]; exact hs, (ho _ (by omega)).trans h.mp, (h.df.setCell (fun hl => by simp at hl; omega) _).setCell (fun hl => by simp at hl; omega) _⟩
theorem TC.pure {w : World} {r : Nat} {es : List ME} {clock : Nat} {f : Nat → Bd} {wr wr' : World} (h : TC w r es clock f wr) (hp : Pure wr wr') (hr : r < w.heap.size) : TC w r es clock f wr' :=
  ⟨h.t2.diff hp id, h.t3.diff hp id, (hp.block _ (Nat.lt_of_lt_of_le hr h.df.size) id).trans h.mp, h.df.trans hp⟩

theorem TC.diff {w : World} {r : Nat} {es : List ME} {clock : Nat} {f : Nat → Bd} {wr wr' : World} {O : Nat → Prop} (h : TC w r es clock f wr) (hd : Diff O wr wr') (hO : ∀ k, O k → w.heap.size + 2 ≤ k) (hr : r < w.heap.size) : TC w r es clock f wr' :=
  ⟨h.t2.diff hd (fun h => by have := hO _ h; omega), h.t3.diff hd (fun h => by have := hO _ h; omega), (hd.block _ (Nat.lt_of_lt_of_le hr h.df.size) (fun h => by have := hO _ h; omega)).trans h.mp, h.df.trans' hd (fun k hk h => by have := hO _ h; omega)⟩
theorem Diff.setBlock {O : Nat → Prop} {a w : World} (h : Diff O a w) {g : Nat} (hg : g < a.heap.size → O g) (o : Obj) : Diff O a (setBlock w g o) := h.putObj hg o

/-- What a map may be, that is handed to tighten. -/
structure GoodM (es : List ME) (clock : Nat) : Prop where
  lt : ∀ e ∈ es, e.born < clock
  nd : (es.map (·.born)).Nodup
  inj : ∀ a ∈ es, ∀ b ∈ es, a.born = b.born → a = b
  keys : ∀ a ∈ es, ∀ b ∈ es, a.f = b.f → a.t = b.t → a = b
  small : ∀ e ∈ es, 0 ≤ e.f ∧ e.f < 19 ∧ 0 ≤ e.t ∧ e.t < 19 ∧ -1000 ≤ e.v ∧ e.v ≤ 1000

/-- The table when the entries of the stamps seen have been taken over. -/
def seenT (es : List ME) (seen : Array Nat) : Nat → Bd := fun k =>
  match es.find? (fun e => seen.contains e.born && e.is ((k / 19 : Nat) : Int) ((k % 19 : Nat) : Int)) with
  | some e => ⟨e.v, true⟩
  | none => diagT 19 k
theorem seenT_none (es : List ME) : seenT es #[] = diagT 19 := by
  funext k
  unfold seenT
  rw [List.find?_eq_none.2 (fun x _ => by simp)]
theorem find_congr {α : Type} {p q : α → Bool} : ∀ {l : List α}, (∀ x ∈ l, p x = q x) → l.find? p = l.find? q
  | [], _ => rfl
  | x :: l, h => by
    rw [List.find?_cons, List.find?_cons, h x (by simp), find_congr (l := l) (fun y hy => h y (by simp [hy]))]
theorem seenT_push (es : List ME) (clock : Nat) (hg : GoodM es clock) (seen : Array Nat) (e : ME) (he : e ∈ es) (K : Nat) (hK : (K : Int) = e.f * 19 + e.t) : setF (seenT es seen) K ⟨e.v, true⟩ = seenT es (seen.push e.born) := by
  obtain ⟨s1, s2, s3, s4, _, _⟩ := hg.small e he
  funext k
  unfold setF seenT
  by_cases h : k = K
  · rw [if_pos h]
    have e1 : ((k / 19 : Nat) : Int) = e.f := by omega
    have e2 : ((k % 19 : Nat) : Int) = e.t := by omega
    have hin : (es.find? fun x => (seen.push e.born).contains x.born && x.is ((k / 19 : Nat) : Int) ((k % 19 : Nat) : Int)) = some e := by
      cases hf : es.find? fun x => (seen.push e.born).contains x.born && x.is ((k / 19 : Nat) : Int) ((k % 19 : Nat) : Int) with
      | none =>
        have := List.find?_eq_none.1 hf e he
        rw [Array.contains_push] at this
        simp [e1, e2, ME.is] at this
      | some x =>
        have h1 := List.find?_some hf
        have h2 := List.mem_of_find?_eq_some hf
        simp only [Bool.and_eq_true, ME.is, beq_iff_eq, e1, e2] at h1
        rw [hg.keys x h2 e he h1.2.1.symm h1.2.2.symm]
    rw [hin]
  · rw [if_neg h]
    have : (fun x : ME => (seen.push e.born).contains x.born && x.is ((k / 19 : Nat) : Int) ((k % 19 : Nat) : Int)) = fun x => (seen.contains x.born || x.born == e.born) && x.is ((k / 19 : Nat) : Int) ((k % 19 : Nat) : Int) := by
      funext x; rw [Array.contains_push]
    rw [this]
    have hc : ∀ x ∈ es, ((seen.contains x.born || x.born == e.born) && x.is ((k / 19 : Nat) : Int) ((k % 19 : Nat) : Int)) = (seen.contains x.born && x.is ((k / 19 : Nat) : Int) ((k % 19 : Nat) : Int)) := by
      intro x hx
      by_cases hb : x.born = e.born
      · have hxe : x = e := by
          exact hg.inj x hx e he hb
        subst hxe
        have : x.is ((k / 19 : Nat) : Int) ((k % 19 : Nat) : Int) = false := by
          cases hi : x.is ((k / 19 : Nat) : Int) ((k % 19 : Nat) : Int) with
          | false => rfl
          | true => simp [ME.is] at hi; omega
        rw [this, Bool.and_false, Bool.and_false]
      · rw [show (x.born == e.born) = false from beq_eq_false_iff_ne.2 hb, Bool.or_false]
    rw [find_congr hc]

theorem findM_find (f t : Int) : ∀ (es : List ME) (i : Nat), (findM f t es i).map (·.2) = es.find? (fun e => e.is f t)
  | [], _ => rfl
  | e :: es, i => by
    unfold findM
    rw [List.find?_cons]
    cases h : e.is f t with
    | true => rfl
    | false => exact findM_find f t es (i + 1)
theorem seenT_all (es : List ME) (seen : Array Nat) (h : ∀ e ∈ es, seen.contains e.born = true) : seenT es seen = netT es := by
  funext k
  unfold seenT netT
  rw [find_congr (l := es) (q := fun e => e.is ((k / 19 : Nat) : Int) ((k % 19 : Nat) : Int)) (fun x hx => by rw [h x hx, Bool.true_and]), ← findM_find _ _ es 0]
  cases findM ((k / 19 : Nat) : Int) ((k % 19 : Nat) : Int) es 0 <;> rfl

theorem netT_small (es : List ME) (clock : Nat) (hg : GoodM es clock) : SmallT 1000 (netT es) := by
  intro k
  unfold netT
  have h := findM_find ((k / 19 : Nat) : Int) ((k % 19 : Nat) : Int) es 0
  cases hf : findM ((k / 19 : Nat) : Int) ((k % 19 : Nat) : Int) es 0 with
  | none => simp only; unfold diagT; split <;> simp [bd0]
  | some x =>
    rw [hf] at h
    have := hg.small x.2 (List.mem_of_find?_eq_some h.symm)
    simp only; omega

theorem TC.congr {w : World} {r : Nat} {es : List ME} {clock : Nat} {f f' : Nat → Bd} {wr : World} (h : TC w r es clock f wr) (he : ∀ k, k < 361 → f k = f' k) : TC w r es clock f' wr := by
  have htab : tabV f = tabV f' := by
    apply Array.ext_getElem?
    intro i
    by_cases hi : i < 722
    · rcases Nat.mod_two_eq_zero_or_one i with e | e
      · rw [tab_get_even hi e, tab_get_even hi e, he (i / 2) (by omega)]
      · rw [tab_get_odd hi e, tab_get_odd hi e, he (i / 2) (by omega)]
    · rw [Array.getElem?_eq_none (by simp [tab_size]; omega), Array.getElem?_eq_none (by simp [tab_size]; omega)]
  exact ⟨h.t2, h.t3.trans (congrArg (fun t => some (Obj.cells t 111 (0, 0))) htab), h.mp, h.df⟩
theorem partT_self (v n : Nat) (T : Nat → Bd) : partT v n T n = T n := by simp [partT]
theorem phase_eq (v : Nat) (T : Nat → Bd) (fr to : Nat) (h : to < 19) : phase v T (fr * 19 + to) = (T (fr * 19 + to)).tighter ((T (fr * 19 + v)).next (T (v * 19 + to))) := by
  unfold phase
  rw [show (fr * 19 + to) / 19 = fr by omega, show (fr * 19 + to) % 19 = to by omega]
/-- How many entries are still to come. -/
def leftN (es : List ME) (gi : Nat) (w : World) : Nat := match w.heap[gi]? with
  | some (.mapIter _ _ seen _) => (es.map (·.born)).countP (fun b => !seen.contains b)
  | _ => 0

set_option maxRecDepth 20000 in
set_option maxHeartbeats 2000000 in
theorem tighten_any (w : World) (r clock : Nat) (es : List ME) (hr : w.heap[r]? = some (mapO es clock)) (hg : GoodM es clock) :
    Calls Tryd.prog 86 #[.map (some r)] w fun e w' => e = .returned (.agg (tabV (tightS es))) ∧ Pure w w' := by
  have hrl : r < w.heap.size := (Array.getElem?_eq_some_iff.1 hr).1
  have hmx : Tryd.prog.follows .mixedOrders = true := by kernel_rfl
  go_enter Tryd.func86, Tryd.ntmps86
  refine wp_seq (wp_region_lit (wpList_alloc_table rfl rfl ?_))
  refine wpList_nil (wp_seq (wp_region_lit (wpList_alloc_table rfl rfl ?_)))
  refine wpList_nil ?_
  have hX : TC w r es clock (diagT 0) ((w.alloc (.cells tab0 111)).alloc (.cells tab0 111)) := by
    refine ⟨(Below.heap_alloc _ _ _ (by simp)).trans (World.alloc_heap_new _ _), ?_, (Below.heap_alloc _ _ _ (by simp; omega)).trans ((Below.heap_alloc _ _ _ hrl).trans hr), ((Diff.refl w).alloc _).alloc _⟩
    have e : diagT 0 = fun _ => bd0 := by funext k; simp [diagT]
    rw [e]
    have := World.alloc_heap_new (w.alloc (.cells tab0 111)) (.cells tab0 111)
    rwa [World.size_alloc] at this
  rw [World.size_alloc]
  obtain ⟨X, hXe⟩ : ∃ X, (w.alloc (.cells tab0 111)).alloc (.cells tab0 111) = X := ⟨_, rfl⟩
  rw [hXe] at hX ⊢
  clear hXe hr
  obtain ⟨g2, hg2⟩ : ∃ g, w.heap.size = g := ⟨_, rfl⟩
  obtain ⟨g3, hg3⟩ : ∃ g, w.heap.size + 1 = g := ⟨_, rfl⟩
  have HG2 := Lib.hid hg2
  have HG3 := Lib.hid hg3
  rw [hg3, hg2]
  clear hg2 hg3
  change Code.wp _ _ _ _ _
  simp only [Act.put, List.setIfInBounds_toArray, List.set_cons_zero, List.set_cons_succ]
  go_wp2
  go_loopw [4, 10] (fun _ i wr => ∃ n : Nat, n ≤ 19 ∧ i = .int .i64 n ∧ TC w r es clock (diagT n) wr) (fun _ i _ => 19 - (intOf i).toNat)
  case atStart => exact ⟨0, by omega, rfl, hX⟩
  case round =>
    obtain ⟨n, hn, rfl, hT⟩ := hrel
    by_cases hlt : n < 19
    · have ht3 := hT.t3
      rw [HG3.out] at ht3
      have hk : n * 19 + n < 361 := by omega
      have c0 : wr.cell? ⟨g3, n * 38 + n * 2, none⟩ = some (.int .i64 (diagT n (n * 19 + n)).by') := ht3.cell hk (by omega)
      have c1 : wr.cell? ⟨g3, n * 38 + n * 2 + 1, none⟩ = some (.bool (diagT n (n * 19 + n)).known) := ht3.cell1 hk (by omega)
      have f0 : wr.frozen? ⟨g3, n * 38 + n * 2, none⟩ = false := ht3.free _
      have f1 : wr.frozen? ⟨g3, n * 38 + n * 2 + 1, none⟩ = false := ht3.free _
      have hs := ht3.set hk (o := n * 38 + n * 2) (by omega) ⟨0, true⟩
      rw [diagT_succ n hlt] at hs
      have HS := Lib.hid hs
      clear hs ht3
      go_wp2
      go_roundw
      case rel => exact ⟨n + 1, by omega, by go_num, hT.set hrl HG3.out HS.out⟩
      case measure => simp [intOf]; omega
    · obtain rfl : n = 19 := by omega
      clear hX
      have hmp := hT.mp
      have hrng := run_range_map wr 94 106 2 r (es.map ME.toE).toArray clock Tryd.underlying94 hmp
      go_wp2
      clear hrng hmp
      obtain ⟨X2, hX2⟩ : ∃ X2, wr.alloc (.mapIter (some r) clock #[] clock) = X2 := ⟨_, rfl⟩
      have hgx : X2.heap[wr.heap.size]? = some (.mapIter (some r) clock #[] clock) := by rw [← hX2]; exact World.alloc_heap_new _ _
      have hT2 : TC w r es clock (seenT es #[]) X2 := by rw [← hX2, seenT_none]; exact hT.pure ((Diff.refl _).alloc _) hrl
      have hgs : w.heap.size + 2 ≤ wr.heap.size := hT.t3.lt
      rw [hX2, show ((19 : Nat) : Int) = 19 from rfl]
      obtain ⟨gi, hgi⟩ : ∃ gi, wr.heap.size = gi := ⟨_, rfl⟩
      rw [hgi] at hgx hgs ⊢
      clear hX2 hgi hT
      go_loopw [5, 6] (fun _ _ wq => ∃ seen, wq.heap[gi]? = some (.mapIter (some r) clock seen clock) ∧ TC w r es clock (seenT es seen) wq) (fun _ _ wq => leftN es gi wq)
      case atStart => exact ⟨#[], hgx, hT2⟩
      case round =>
        obtain ⟨seen, hit, hTq⟩ := hrel
        clear hgx hT2
        have hmp := hTq.mp
        have hgq : gi < wr.heap.size := (Array.getElem?_eq_some_iff.1 hit).1
        rcases run_next_at (P := Tryd.prog) wr 0 gi r clock clock seen (es.map ME.toE).toArray clock hit hmp (by
          intro x hx
          simp only [List.mem_map] at hx
          obtain ⟨e, he, rfl⟩ := hx
          exact hg.lt e he) (Nat.le_refl _) with ⟨h0, hn⟩ | ⟨e0, he0, w1, hw1, hn⟩
        · have HZ : Hid (seenT es seen = netT es) := seenT_all es seen (by
            intro e he
            have h1 : (leftOf (es.map ME.toE).toArray seen) = #[] := Array.eq_empty_of_size_eq_zero h0
            cases hc : seen.contains e.born with
            | true => rfl
            | false =>
              have h2 : e.toE ∈ leftOf (es.map ME.toE).toArray seen := by
                simp only [leftOf, Array.mem_filter, List.mem_toArray, List.mem_map]
                exact ⟨⟨e, he, rfl⟩, by rw [hc]; rfl⟩
              rw [h1] at h2
              simp at h2)
          have HF := Lib.hid hTq
          clear h0 hTq hmp hit
          rw [HZ.out] at HF
          have hSm : SmallT 1000 (netT es) := netT_small es clock hg
          clear HZ hgq
          go_wp2
          go_loopw [7, 8, 9, 34] (fun _ _ _ i wq => ∃ (v : Nat) (T : Nat → Bd), v ≤ 19 ∧ i = .int .i64 v ∧ fwTo v (netT es) = some T ∧ TC w r es clock T wq) (fun _ _ _ i _ => 19 - (intOf i).toNat)
          case atStart => exact ⟨0, netT es, by omega, rfl, rfl, HF.out⟩
          case round =>
            obtain ⟨v, T, hv, rfl, hfw, hTq⟩ := hrel
            clear HF
            have HFW := Lib.hid hfw
            by_cases hlv : v < 19
            · have ht3 := hTq.t3
              rw [HG3.out] at ht3
              have hkv : v * 19 + v < 361 := by omega
              have c0 : wr.cell? ⟨g3, v * 38 + v * 2, none⟩ = some (.int .i64 (T (v * 19 + v)).by') := ht3.cell hkv (by omega)
              have c1 : wr.cell? ⟨g3, v * 38 + v * 2 + 1, none⟩ = some (.bool (T (v * 19 + v)).known) := ht3.cell1 hkv (by omega)
              have HT := Lib.hid hTq
              clear hfw hTq ht3
              by_cases hneg : (T (v * 19 + v)).by' < 0
              · have HN : Hid (tightS es = fun _ => bd0) := by
                  show _ = _
                  unfold tightS
                  have : fwTo (v + 1) (netT es) = none := by simp only [fwTo, HFW.out]; rw [if_pos hneg]
                  rw [fwTo_none this 19 (by omega)]; rfl
                go_wp2_with fail
                refine (none_any _).mono ?_
                rintro e w' ⟨rfl, hp⟩
                have hT' := HT.out.pure hp hrl
                have hg2 := hT'.t2
                rw [HG2.out] at hg2
                refine (‹∀ (a : Act) (w : World), wpList Tryd.prog _ _ _ a w → (_ : Act → World → Prop) a w› : ∀ (a : Act) (w : World), _ → _) _ _ ?_
                refine wpList_store_table rfl (.tmp 2) (.tmp 44) rfl g2 (fun _ => bd0) (fun _ => bd0) rfl rfl hg2 ?_
                have hg2' : TabAt (w'.setRow g2 (tabV fun _ => bd0)) g2 (fun _ => bd0) := setRow_heap _ _ _ _ _ _ hg2
                have hPf : Pure w (w'.setRow g2 (tabV fun _ => bd0)) := hT'.df.setRow (fun h => by have := HG2.out; omega) _
                obtain ⟨Y, hY⟩ : ∃ Y, w'.setRow g2 (tabV fun _ => bd0) = Y := ⟨_, rfl⟩
                rw [hY] at hg2' hPf ⊢
                clear hY hg2 hT' hp
                refine wpList_nil ?_
                simp only [Act.put]
                go_wp2
                refine bodyPost_ret (v := .agg (tabV (tightS es))) (results_cell_row Tryd.results86 _ _ g2 111 (tabV (tightS es)) (0, 0) _ rfl ?_ Tryd.underlying111 rfl ?_) rfl ⟨rfl, hPf⟩
                · rw [HN.out]; exact hg2'
                · rw [tab_size]; exact size_table
              · have HP : Hid (0 ≤ (T (v * 19 + v)).by') := by show _ ≤ _; omega
                have HSM : Hid (SmallT 600000000 T) := fun k => by
                  have h1 := fwTo_small hSm v T HFW.out k
                  have h2 := capN_small (n := v) (by omega)
                  omega
                go_wp2
                clear hneg
                go_loopw [8, 9, 45] (fun _ _ i wq => ∃ fr : Nat, fr ≤ 19 ∧ i = .int .i64 fr ∧ TC w r es clock (partT v (fr * 19) T) wq) (fun _ _ i _ => 19 - (intOf i).toNat)
                case atStart => exact ⟨0, by omega, rfl, by rw [show partT v (0 * 19) T = T by funext k; simp [partT]]; exact HT.out⟩
                case round =>
                  obtain ⟨fr, hfr, rfl, hTq⟩ := hrel
                  clear HT c0 c1
                  by_cases hfl : fr < 19
                  · have hdf : decide ((fr : Int) < 19) = true := by simp; omega
                    go_wp2
                    clear hdf
                    go_loopw [9, 48] (fun _ i wq => ∃ to : Nat, to ≤ 19 ∧ i = .int .i64 to ∧ TC w r es clock (partT v (fr * 19 + to) T) wq) (fun _ i _ => 19 - (intOf i).toNat)
                    case atStart => exact ⟨0, by omega, rfl, hTq⟩
                    case round =>
                      obtain ⟨to, hto, rfl, hTq⟩ := hrel
                      by_cases htl : to < 19
                      · have hdt : decide ((to : Int) < 19) = true := by simp; omega
                        go_wp2
                        clear hdt
                        have hfi : (fr : Int) < 19 := by omega
                        have hti : (to : Int) < 19 := by omega
                        have hvi : (v : Int) < 19 := by omega
                        refine reg_invW (fun d a W => a = { tmps := #[Value.map (some r), undef, Value.pointer (some { block := g2, off := 0 }), Value.pointer (some { block := g3, off := 0 }), u4, u5, u6, Value.int IntKind.i64 ↑v, Value.int IntKind.i64 ↑fr, Value.int IntKind.i64 ↑to, Value.int IntKind.i64 19, Value.bool false, u12, u13, u14, u15, u16, u17, u18, Value.map (some r), Value.pointer (some { block := gi, off := 0 }), Value.tuple #[Value.bool false], Value.bool false, u23, u24, u25, u26, u27, u28, u29, u30, u31, u32, u33, Value.int IntKind.i64 ↑v, Value.bool true, Value.int IntKind.i64 ↑v, Value.int IntKind.i64 ↑v, Value.int IntKind.i64 ↑v, Value.pointer (some { block := g3, off := v * 38 }), Value.pointer (some { block := g3, off := (v * 38 + v * 2) }), Value.pointer (some { block := g3, off := (v * 38 + v * 2) }), Value.int IntKind.i64 (T (v * 19 + v)).by', Value.bool false, u44, Value.int IntKind.i64 ↑fr, Value.bool true, Value.int IntKind.i64 ↑fr, Value.int IntKind.i64 ↑to, Value.bool true, Value.int IntKind.i64 ↑to, (bif d 0 then Value.int IntKind.i64 ↑fr else u51), (bif d 1 then Value.int IntKind.i64 ↑to else u52), (bif d 2 then Value.int IntKind.i64 ↑fr else u53), (bif d 3 then Value.int IntKind.i64 ↑to else u54), (bif d 4 then Value.pointer (some { block := g3, off := fr * 38 }) else u55), (bif d 5 then Value.pointer (some { block := g3, off := (fr * 38 + to * 2) }) else u56), (bif d 6 then Value.agg #[Value.int IntKind.i64 (T (fr * 19 + to)).by', Value.bool (T (fr * 19 + to)).known] else u57), (bif d 7 then Value.int IntKind.i64 ↑fr else u58), (bif d 8 then Value.int IntKind.i64 ↑v else u59), (bif d 9 then Value.pointer (some { block := g3, off := fr * 38 }) else u60), (bif d 10 then Value.pointer (some { block := g3, off := (fr * 38 + v * 2) }) else u61), (bif d 11 then Value.agg #[Value.int IntKind.i64 (T (fr * 19 + v)).by', Value.bool (T (fr * 19 + v)).known] else u62), (bif d 12 then Value.int IntKind.i64 ↑v else u63), (bif d 13 then Value.int IntKind.i64 ↑to else u64), (bif d 14 then Value.pointer (some { block := g3, off := v * 38 }) else u65), (bif d 15 then Value.pointer (some { block := g3, off := (v * 38 + to * 2) }) else u66), (bif d 16 then Value.agg #[Value.int IntKind.i64 (T (v * 19 + to)).by', Value.bool (T (v * 19 + to)).known] else u67), (bif d 17 then Value.agg #[Value.int IntKind.i64 ((T (fr * 19 + v)).next (T (v * 19 + to))).by', Value.bool ((T (fr * 19 + v)).next (T (v * 19 + to))).known] else u68), (bif d 18 then Value.agg #[Value.int IntKind.i64 (phase v T (fr * 19 + to)).by', Value.bool (phase v T (fr * 19 + to)).known] else u69), (bif d 19 then Value.pointer (some { block := g3, off := fr * 38 }) else u70), (bif d 20 then Value.pointer (some { block := g3, off := (fr * 38 + to * 2) }) else u71), u72, u73, u74, undef], defers := [] } ∧ (d 21 = false → TC w r es clock (partT v (fr * 19 + to) T) W) ∧ (d 21 = true → TC w r es clock (partT v (fr * 19 + to + 1) T) W)) hmx (by kernel_rfl) ?_ ?_ ?_
                        · exact ⟨rfl, fun _ => hTq.pure (Diff.refl _).drew hrl, fun h => by cases h⟩
                        · refine ⟨?_, ?_, ?_, ?_, ?_, ?_, ?_, ?_, ?_, ?_, ?_, ?_, ?_, ?_, ?_, ?_, ?_, ?_, ?_, ?_, ?_, ?_, trivial⟩
                          · rintro d a W hdi hdep hcl ⟨rfl, hw⟩ K hK
                            replace hdi : d 0 = false := hdi
                            obtain ⟨-, -, f19, f20, f21, -⟩ := hcl.facts 0 hdi rfl hdep [] [19, 20, 21] (by kernel_rfl) (by kernel_rfl)
                            clear hdep hcl
                            go_simp
                            exact hK _ _ ⟨by simp [upd, hdi, f19, f20, f21], by simpa [upd] using hw⟩
                          · rintro d a W hdi hdep hcl ⟨rfl, hw⟩ K hK
                            replace hdi : d 1 = false := hdi
                            obtain ⟨-, -, f20, f21, -⟩ := hcl.facts 1 hdi rfl hdep [] [20, 21] (by kernel_rfl) (by kernel_rfl)
                            clear hdep hcl
                            go_simp
                            exact hK _ _ ⟨by simp [upd, hdi, f20, f21], by simpa [upd] using hw⟩
                          · rintro d a W hdi hdep hcl ⟨rfl, hw⟩ K hK
                            replace hdi : d 2 = false := hdi
                            obtain ⟨-, -, f4, f5, f6, f18, f20, f21, -⟩ := hcl.facts 2 hdi rfl hdep [] [4, 5, 6, 18, 20, 21] (by kernel_rfl) (by kernel_rfl)
                            clear hdep hcl
                            go_simp
                            exact hK _ _ ⟨by simp [upd, hdi, f4, f5, f6, f18, f20, f21], by simpa [upd] using hw⟩
                          · rintro d a W hdi hdep hcl ⟨rfl, hw⟩ K hK
                            replace hdi : d 3 = false := hdi
                            obtain ⟨-, -, f5, f6, f18, f20, f21, -⟩ := hcl.facts 3 hdi rfl hdep [] [5, 6, 18, 20, 21] (by kernel_rfl) (by kernel_rfl)
                            clear hdep hcl
                            go_simp
                            exact hK _ _ ⟨by simp [upd, hdi, f5, f6, f18, f20, f21], by simpa [upd] using hw⟩
                          · rintro d a W hdi hdep hcl ⟨rfl, hw⟩ K hK
                            replace hdi : d 4 = false := hdi
                            obtain ⟨-, ⟨e2, -⟩, f5, f6, f18, f20, f21, -⟩ := hcl.facts 4 hdi rfl hdep [2] [5, 6, 18, 20, 21] (by kernel_rfl) (by kernel_rfl)
                            clear hdep hcl
                            go_simp
                            exact hK _ _ ⟨by simp [upd, hdi, e2, f5, f6, f18, f20, f21], by simpa [upd] using hw⟩
                          · rintro d a W hdi hdep hcl ⟨rfl, hw⟩ K hK
                            replace hdi : d 5 = false := hdi
                            obtain ⟨-, ⟨e2, e3, e4, -⟩, f6, f18, f20, f21, -⟩ := hcl.facts 5 hdi rfl hdep [2, 3, 4] [6, 18, 20, 21] (by kernel_rfl) (by kernel_rfl)
                            clear hdep hcl
                            go_simp
                            exact hK _ _ ⟨by simp [upd, hdi, e2, e3, e4, f6, f18, f20, f21], by simpa [upd] using hw⟩
                          · rintro d a W hdi hdep hcl ⟨rfl, hw⟩ K hK
                            replace hdi : d 6 = false := hdi
                            obtain ⟨-, ⟨e2, e3, e4, e5, -⟩, f18, f20, f21, -⟩ := hcl.facts 6 hdi rfl hdep [2, 3, 4, 5] [18, 20, 21] (by kernel_rfl) (by kernel_rfl)
                            clear hdep hcl
                            have hr := hw.1 f21
                            have ht := hr.t3
                            rw [HG3.out] at ht
                            have z0 : W.cell? ⟨g3, fr * 38 + to * 2, none⟩ = some (.int .i64 (T (fr * 19 + to)).by') := by rw [← partT_self v (fr * 19 + to) T]; exact ht.cell (k := (fr * 19 + to)) (by omega) (by omega)
                            have z1 : W.cell? ⟨g3, fr * 38 + to * 2 + 1, none⟩ = some (.bool (T (fr * 19 + to)).known) := by rw [← partT_self v (fr * 19 + to) T]; exact ht.cell1 (k := (fr * 19 + to)) (by omega) (by omega)
                            clear hr ht
                            go_simp
                            exact hK _ _ ⟨by simp [upd, hdi, e2, e3, e4, e5, f18, f20, f21], by simpa [upd] using hw⟩
                          · rintro d a W hdi hdep hcl ⟨rfl, hw⟩ K hK
                            replace hdi : d 7 = false := hdi
                            obtain ⟨-, -, f9, f10, f11, f17, f18, f20, f21, -⟩ := hcl.facts 7 hdi rfl hdep [] [9, 10, 11, 17, 18, 20, 21] (by kernel_rfl) (by kernel_rfl)
                            clear hdep hcl
                            go_simp
                            exact hK _ _ ⟨by simp [upd, hdi, f9, f10, f11, f17, f18, f20, f21], by simpa [upd] using hw⟩
                          · rintro d a W hdi hdep hcl ⟨rfl, hw⟩ K hK
                            replace hdi : d 8 = false := hdi
                            obtain ⟨-, -, f10, f11, f17, f18, f20, f21, -⟩ := hcl.facts 8 hdi rfl hdep [] [10, 11, 17, 18, 20, 21] (by kernel_rfl) (by kernel_rfl)
                            clear hdep hcl
                            go_simp
                            exact hK _ _ ⟨by simp [upd, hdi, f10, f11, f17, f18, f20, f21], by simpa [upd] using hw⟩
                          · rintro d a W hdi hdep hcl ⟨rfl, hw⟩ K hK
                            replace hdi : d 9 = false := hdi
                            obtain ⟨-, ⟨e7, -⟩, f10, f11, f17, f18, f20, f21, -⟩ := hcl.facts 9 hdi rfl hdep [7] [10, 11, 17, 18, 20, 21] (by kernel_rfl) (by kernel_rfl)
                            clear hdep hcl
                            go_simp
                            exact hK _ _ ⟨by simp [upd, hdi, e7, f10, f11, f17, f18, f20, f21], by simpa [upd] using hw⟩
                          · rintro d a W hdi hdep hcl ⟨rfl, hw⟩ K hK
                            replace hdi : d 10 = false := hdi
                            obtain ⟨-, ⟨e7, e8, e9, -⟩, f11, f17, f18, f20, f21, -⟩ := hcl.facts 10 hdi rfl hdep [7, 8, 9] [11, 17, 18, 20, 21] (by kernel_rfl) (by kernel_rfl)
                            clear hdep hcl
                            go_simp
                            exact hK _ _ ⟨by simp [upd, hdi, e7, e8, e9, f11, f17, f18, f20, f21], by simpa [upd] using hw⟩
                          · rintro d a W hdi hdep hcl ⟨rfl, hw⟩ K hK
                            replace hdi : d 11 = false := hdi
                            obtain ⟨-, ⟨e7, e8, e9, e10, -⟩, f17, f18, f20, f21, -⟩ := hcl.facts 11 hdi rfl hdep [7, 8, 9, 10] [17, 18, 20, 21] (by kernel_rfl) (by kernel_rfl)
                            clear hdep hcl
                            have hr := hw.1 f21
                            have ht := hr.t3
                            rw [HG3.out] at ht
                            have z0 : W.cell? ⟨g3, fr * 38 + v * 2, none⟩ = some (.int .i64 (T (fr * 19 + v)).by') := by rw [← partT_row (n := fr * 19 + to) HP.out (k := fr * 19 + v) (by omega)]; exact ht.cell (k := (fr * 19 + v)) (by omega) (by omega)
                            have z1 : W.cell? ⟨g3, fr * 38 + v * 2 + 1, none⟩ = some (.bool (T (fr * 19 + v)).known) := by rw [← partT_row (n := fr * 19 + to) HP.out (k := fr * 19 + v) (by omega)]; exact ht.cell1 (k := (fr * 19 + v)) (by omega) (by omega)
                            clear hr ht
                            go_simp
                            exact hK _ _ ⟨by simp [upd, hdi, e7, e8, e9, e10, f17, f18, f20, f21], by simpa [upd] using hw⟩
                          · rintro d a W hdi hdep hcl ⟨rfl, hw⟩ K hK
                            replace hdi : d 12 = false := hdi
                            obtain ⟨-, -, f14, f15, f16, f17, f18, f20, f21, -⟩ := hcl.facts 12 hdi rfl hdep [] [14, 15, 16, 17, 18, 20, 21] (by kernel_rfl) (by kernel_rfl)
                            clear hdep hcl
                            go_simp
                            exact hK _ _ ⟨by simp [upd, hdi, f14, f15, f16, f17, f18, f20, f21], by simpa [upd] using hw⟩
                          · rintro d a W hdi hdep hcl ⟨rfl, hw⟩ K hK
                            replace hdi : d 13 = false := hdi
                            obtain ⟨-, -, f15, f16, f17, f18, f20, f21, -⟩ := hcl.facts 13 hdi rfl hdep [] [15, 16, 17, 18, 20, 21] (by kernel_rfl) (by kernel_rfl)
                            clear hdep hcl
                            go_simp
                            exact hK _ _ ⟨by simp [upd, hdi, f15, f16, f17, f18, f20, f21], by simpa [upd] using hw⟩
                          · rintro d a W hdi hdep hcl ⟨rfl, hw⟩ K hK
                            replace hdi : d 14 = false := hdi
                            obtain ⟨-, ⟨e12, -⟩, f15, f16, f17, f18, f20, f21, -⟩ := hcl.facts 14 hdi rfl hdep [12] [15, 16, 17, 18, 20, 21] (by kernel_rfl) (by kernel_rfl)
                            clear hdep hcl
                            go_simp
                            exact hK _ _ ⟨by simp [upd, hdi, e12, f15, f16, f17, f18, f20, f21], by simpa [upd] using hw⟩
                          · rintro d a W hdi hdep hcl ⟨rfl, hw⟩ K hK
                            replace hdi : d 15 = false := hdi
                            obtain ⟨-, ⟨e12, e13, e14, -⟩, f16, f17, f18, f20, f21, -⟩ := hcl.facts 15 hdi rfl hdep [12, 13, 14] [16, 17, 18, 20, 21] (by kernel_rfl) (by kernel_rfl)
                            clear hdep hcl
                            go_simp
                            exact hK _ _ ⟨by simp [upd, hdi, e12, e13, e14, f16, f17, f18, f20, f21], by simpa [upd] using hw⟩
                          · rintro d a W hdi hdep hcl ⟨rfl, hw⟩ K hK
                            replace hdi : d 16 = false := hdi
                            obtain ⟨-, ⟨e12, e13, e14, e15, -⟩, f17, f18, f20, f21, -⟩ := hcl.facts 16 hdi rfl hdep [12, 13, 14, 15] [17, 18, 20, 21] (by kernel_rfl) (by kernel_rfl)
                            clear hdep hcl
                            have hr := hw.1 f21
                            have ht := hr.t3
                            rw [HG3.out] at ht
                            have z0 : W.cell? ⟨g3, v * 38 + to * 2, none⟩ = some (.int .i64 (T (v * 19 + to)).by') := by rw [← partT_col (n := fr * 19 + to) HP.out hlv (k := v * 19 + to) (by omega)]; exact ht.cell (k := (v * 19 + to)) (by omega) (by omega)
                            have z1 : W.cell? ⟨g3, v * 38 + to * 2 + 1, none⟩ = some (.bool (T (v * 19 + to)).known) := by rw [← partT_col (n := fr * 19 + to) HP.out hlv (k := v * 19 + to) (by omega)]; exact ht.cell1 (k := (v * 19 + to)) (by omega) (by omega)
                            clear hr ht
                            go_simp
                            exact hK _ _ ⟨by simp [upd, hdi, e12, e13, e14, e15, f17, f18, f20, f21], by simpa [upd] using hw⟩
                          · rintro d a W hdi hdep hcl ⟨rfl, hw⟩ K hK
                            replace hdi : d 17 = false := hdi
                            obtain ⟨-, ⟨e7, e8, e9, e10, e11, e12, e13, e14, e15, e16, -⟩, f18, f20, f21, -⟩ := hcl.facts 17 hdi rfl hdep [7, 8, 9, 10, 11, 12, 13, 14, 15, 16] [18, 20, 21] (by kernel_rfl) (by kernel_rfl)
                            clear hdep hcl
                            have b1 := HSM.out (fr * 19 + v)
                            have b2 := HSM.out (v * 19 + to)
                            go_simp
                            refine (next_any _ (T (fr * 19 + v)) (T (v * 19 + to)) (by omega) (by omega) (by omega) (by omega)).mono ?_
                            rintro e w' ⟨rfl, hp⟩
                            exact hK _ _ ⟨by simp [upd, hdi, e7, e8, e9, e10, e11, e12, e13, e14, e15, e16, f18, f20, f21], fun _ => (hw.1 f21).pure hp hrl, by simp [upd, f21]⟩
                          · rintro d a W hdi hdep hcl ⟨rfl, hw⟩ K hK
                            replace hdi : d 18 = false := hdi
                            obtain ⟨-, ⟨e2, e3, e4, e5, e6, e7, e8, e9, e10, e11, e12, e13, e14, e15, e16, e17, -⟩, f20, f21, -⟩ := hcl.facts 18 hdi rfl hdep [2, 3, 4, 5, 6, 7, 8, 9, 10, 11, 12, 13, 14, 15, 16, 17] [20, 21] (by kernel_rfl) (by kernel_rfl)
                            clear hdep hcl
                            have hph : phase v T (fr * 19 + to) = (T (fr * 19 + to)).tighter ((T (fr * 19 + v)).next (T (v * 19 + to))) := phase_eq v T fr to htl
                            go_simp
                            refine (tighter_any _ (T (fr * 19 + to)) ((T (fr * 19 + v)).next (T (v * 19 + to)))).mono ?_
                            rintro e w' ⟨rfl, hp⟩
                            rw [← hph]
                            exact hK _ _ ⟨by simp [upd, hdi, e2, e3, e4, e5, e6, e7, e8, e9, e10, e11, e12, e13, e14, e15, e16, e17, f20, f21], fun _ => (hw.1 f21).pure hp hrl, by simp [upd, f21]⟩
                          · rintro d a W hdi hdep hcl ⟨rfl, hw⟩ K hK
                            replace hdi : d 19 = false := hdi
                            obtain ⟨-, ⟨e0, -⟩, f20, f21, -⟩ := hcl.facts 19 hdi rfl hdep [0] [20, 21] (by kernel_rfl) (by kernel_rfl)
                            clear hdep hcl
                            go_simp
                            exact hK _ _ ⟨by simp [upd, hdi, e0, f20, f21], by simpa [upd] using hw⟩
                          · rintro d a W hdi hdep hcl ⟨rfl, hw⟩ K hK
                            replace hdi : d 20 = false := hdi
                            obtain ⟨-, ⟨e0, e1, e2, e3, e4, e5, e6, e7, e8, e9, e10, e11, e12, e13, e14, e15, e16, e17, e18, e19, -⟩, f21, -⟩ := hcl.facts 20 hdi rfl hdep [0, 1, 2, 3, 4, 5, 6, 7, 8, 9, 10, 11, 12, 13, 14, 15, 16, 17, 18, 19] [21] (by kernel_rfl) (by kernel_rfl)
                            clear hdep hcl
                            go_simp
                            exact hK _ _ ⟨by simp [upd, hdi, e0, e1, e2, e3, e4, e5, e6, e7, e8, e9, e10, e11, e12, e13, e14, e15, e16, e17, e18, e19, f21], by simpa [upd] using hw⟩
                          · rintro d a W hdi hdep hcl ⟨rfl, hw⟩ K hK
                            replace hdi : d 21 = false := hdi
                            obtain ⟨-, ⟨e0, e1, e2, e3, e4, e5, e6, e7, e8, e9, e10, e11, e12, e13, e14, e15, e16, e17, e18, e19, e20, -⟩, -⟩ := hcl.facts 21 hdi rfl hdep [0, 1, 2, 3, 4, 5, 6, 7, 8, 9, 10, 11, 12, 13, 14, 15, 16, 17, 18, 19, 20] [] (by kernel_rfl) (by kernel_rfl)
                            clear hdep hcl
                            have hr := hw.1 hdi
                            have ht := hr.t3
                            rw [HG3.out] at ht
                            have hk : fr * 19 + to < 361 := by omega
                            have z0 : W.cell? ⟨g3, fr * 38 + to * 2, none⟩ = some (.int .i64 (partT v (fr * 19 + to) T (fr * 19 + to)).by') := ht.cell hk (by omega)
                            have z1 : W.cell? ⟨g3, fr * 38 + to * 2 + 1, none⟩ = some (.bool (partT v (fr * 19 + to) T (fr * 19 + to)).known) := ht.cell1 hk (by omega)
                            have y0 : W.frozen? ⟨g3, fr * 38 + to * 2, none⟩ = false := ht.free _
                            have y1 : W.frozen? ⟨g3, fr * 38 + to * 2 + 1, none⟩ = false := ht.free _
                            have hs := ht.set hk (o := fr * 38 + to * 2) (by omega) (phase v T (fr * 19 + to))
                            rw [partT_succ _ rfl] at hs
                            have HS := Lib.hid hs
                            clear hs ht hr
                            go_simp
                            exact hK _ _ ⟨by simp [upd, hdi, e0, e1, e2, e3, e4, e5, e6, e7, e8, e9, e10, e11, e12, e13, e14, e15, e16, e17, e18, e19, e20], by simp [upd], fun _ => (hw.1 hdi).set hrl HG3.out HS.out⟩
                        · rintro d a W hall ⟨rfl, hw⟩
                          simp [List.range_succ] at hall
                          obtain ⟨e0, e1, e2, e3, e4, e5, e6, e7, e8, e9, e10, e11, e12, e13, e14, e15, e16, e17, e18, e19, e20, e21⟩ := hall
                          simp only [e0, e1, e2, e3, e4, e5, e6, e7, e8, e9, e10, e11, e12, e13, e14, e15, e16, e17, e18, e19, e20, e21, cond_true] at hw ⊢
                          clear e0 e1 e2 e3 e4 e5 e6 e7 e8 e9 e10 e11 e12 e13 e14 e15 e16 e17 e18 e19 e20 e21
                          have hr := hw.2 trivial
                          clear hw
                          go_wp2
                          go_roundw
                          case rel => exact ⟨to + 1, by omega, by go_num, hr⟩
                          case measure => simp [intOf]; omega
                      · obtain rfl : to = 19 := by omega
                        go_wp2
                        go_roundw
                        case rel => exact ⟨fr + 1, by omega, by go_num, by rw [show (fr + 1) * 19 = fr * 19 + 19 by omega]; exact hTq⟩
                        case measure => simp [intOf]; omega
                  · obtain rfl : fr = 19 := by omega
                    go_wp2
                    go_roundw
                    case rel => exact ⟨v + 1, phase v T, by omega, by go_num, by simp only [fwTo, HFW.out]; rw [if_neg (by have := HP.out; omega)], hTq.congr (fun k hk => by simp [partT, hk])⟩
                    case measure => simp [intOf]; omega
            · obtain rfl : v = 19 := by omega
              have HF : Hid (tightS es = T) := by show _ = _; unfold tightS; rw [HFW.out]; rfl
              have ht3 := hTq.t3
              have ht2 := hTq.t2
              rw [HG3.out] at ht3
              rw [HG2.out] at ht2
              have hPf : Hid (Pure w wr) := hTq.df
              have HT3 := Lib.hid ht3
              have HT2 := Lib.hid ht2
              clear hTq hfw ht3 ht2
              go_wp2_with (first | (refine wpList_load_table rfl (.tmp 3) rfl g3 T rfl HT3.out ?_) | (refine wpList_store_table rfl (.tmp 2) (.tmp 75) rfl g2 T (fun _ => bd0) rfl rfl HT2.out ?_))
              have hg2' : TabAt (wr.setRow g2 (tabV T)) g2 T := setRow_heap _ _ _ _ _ _ HT2.out
              have hPf' : Pure w (wr.setRow g2 (tabV T)) := hPf.out.setRow (fun h => by have := HG2.out; omega) _
              refine bodyPost_ret (v := .agg (tabV (tightS es))) (results_cell_row Tryd.results86 _ _ g2 111 (tabV (tightS es)) (0, 0) _ rfl ?_ Tryd.underlying111 rfl ?_) rfl ⟨rfl, hPf'⟩
              · rw [HF.out]; exact hg2'
              · rw [tab_size]; exact size_table
        · rw [Array.mem_toList_iff] at he0
          simp only [leftOf, Array.mem_filter, List.mem_toArray, List.mem_map] at he0
          obtain ⟨⟨e, he, rfl⟩, hns⟩ := he0
          obtain ⟨s1, s2, s3, s4, s5, s6⟩ := hg.small e he
          obtain ⟨fn, hfn⟩ := Int.eq_ofNat_of_zero_le s1
          obtain ⟨tn, htn⟩ := Int.eq_ofNat_of_zero_le s3
          have hfl : fn < 19 := by omega
          have htl : tn < 19 := by omega
          have hw1d : Diff (fun k => k = gi) wr (setBlock w1 gi (.mapIter (some r) clock (seen.push e.born) clock)) := by
            rcases hw1 with rfl | rfl
            · exact Diff.setBlock (O := fun k => k = gi) (Diff.refl _) (fun _ => rfl) _
            · exact Diff.setBlock (O := fun k => k = gi) (Diff.refl _).drew (fun _ => rfl) _
          have hT3 := hTq.diff hw1d (fun k hk => by omega) hrl
          have hit3 : (setBlock w1 gi (.mapIter (some r) clock (seen.push e.born) clock)).heap[gi]? = some (.mapIter (some r) clock (seen.push e.born) clock) := by
            have : gi < w1.heap.size := by rcases hw1 with rfl | rfl <;> exact hgq
            simp [setBlock, this]
          obtain ⟨W2, hW2⟩ : ∃ W2, setBlock w1 gi (.mapIter (some r) clock (seen.push e.born) clock) = W2 := ⟨_, rfl⟩
          have hn' : (Instr.next (.pointer (some ⟨gi, 0, none⟩)) false 0).run Tryd.prog wr = .ok (.tuple #[.bool true, .agg #[.int .i64 fn, .int .i64 tn], .int .i64 e.v]) W2 := by rw [hn, hW2]; simp only [hfn, htn]
          rw [hW2] at hT3 hit3 hw1d
          have hen : (Instr.entry (.pointer (some ⟨gi, 0, none⟩))).run Tryd.prog W2 = .ok (.tuple #[.agg #[.int .i64 fn, .int .i64 tn], .int .i64 e.v]) W2 := by
            have := run_entry_at (P := Tryd.prog) W2 gi r clock seen (es.map ME.toE).toArray clock e.toE hit3 hT3.mp (by simp only [List.mem_map]; exact ⟨e, he, rfl⟩) (by
              have := hg.nd
              simpa [List.map_map, Function.comp_def] using this)
            rw [this]; simp only [hfn, htn]
          have ht3 := hT3.t3
          rw [HG3.out] at ht3
          have hk : fn * 19 + tn < 361 := by omega
          have hg3l : g3 < W2.heap.size := ht3.lt
          have c0 : W2.cell? ⟨g3, fn * 38 + tn * 2, none⟩ = some (.int .i64 (seenT es seen (fn * 19 + tn)).by') := ht3.cell hk (by omega)
          have c1 : W2.cell? ⟨g3, fn * 38 + tn * 2 + 1, none⟩ = some (.bool (seenT es seen (fn * 19 + tn)).known) := ht3.cell1 hk (by omega)
          have f0 : W2.frozen? ⟨g3, fn * 38 + tn * 2, none⟩ = false := ht3.free _
          have f1 : W2.frozen? ⟨g3, fn * 38 + tn * 2 + 1, none⟩ = false := ht3.free _
          have HM : Hid (leftN es gi wr = (es.map (·.born)).countP (fun b => !seen.contains b)) := by show _ = _; unfold leftN; rw [hit]
          have HT3 := Lib.hid hT3
          have HI3 := Lib.hid hit3
          have HNS := Lib.hid hns
          have HTq := Lib.hid hTq
          clear hn hW2 hw1 hit hT3 hit3 hmp ht3 hns hTq hw1d
          go_wp2
          go_region
          have hs := (by have := HT3.out.t3; rw [HG3.out] at this; exact this : TabAt W2 g3 (seenT es seen)).set hk (o := fn * 38 + tn * 2) (by omega) ⟨e.v, true⟩
          rw [seenT_push es clock hg seen e he (fn * 19 + tn) (by rw [hfn, htn]; simp)] at hs
          have hg3i : g3 ≠ gi := by have := HG3.out; omega
          have hT5 := HT3.out.set hrl HG3.out hs
          have hit5 : ((W2.setCell ⟨g3, fn * 38 + tn * 2, none⟩ (.int .i64 e.v)).setCell ⟨g3, fn * 38 + tn * 2 + 1, none⟩ (.bool true)).heap[gi]? = some (.mapIter (some r) clock (seen.push e.born) clock) :=
            (heap_setCell_other _ _ _ _ (Ne.symm hg3i)).trans ((heap_setCell_other _ _ _ _ (Ne.symm hg3i)).trans HI3.out)
          have hit4 : (((W2.setCell ⟨g3, fn * 38 + tn * 2, none⟩ (.int .i64 e.v)).setCell ⟨g3, fn * 38 + tn * 2 + 1, none⟩ (.bool true)).alloc (.cells #[.int .i64 fn, .int .i64 tn] 106)).drew.heap[gi]? = some (.mapIter (some r) clock (seen.push e.born) clock) :=
            (Below.heap_alloc _ _ _ (Array.getElem?_eq_some_iff.1 hit5).1).trans hit5
          go_roundw
          case rel => exact ⟨_, _, _, _, _, _, _, _, _, _, _, _, _, _, _, ⟨seen.push e.born, hit4, hT5.pure ((Diff.refl _).alloc _).drew hrl⟩, rfl⟩
          case measure =>
            rw [HM.out]
            unfold leftN
            rw [hit4]
            refine countP_lt (p := fun b => !seen.contains b) (q := fun b => !(seen.push e.born).contains b) (i := e.born) (fun j hj => ?_) (by simpa using HNS.out) (by simp) _ (by simp only [List.mem_map]; exact ⟨e, he, rfl⟩)
            rw [Array.contains_push] at hj
            simp at hj ⊢
            exact hj.1
end Go.Proofs.YtmedkmbfggphdaaDoor
