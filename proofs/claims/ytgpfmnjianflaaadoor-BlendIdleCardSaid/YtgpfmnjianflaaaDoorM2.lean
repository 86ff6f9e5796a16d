/- Walks: Compare, Or, and the order of lots. Walk of slices.insertionSortCmpFunc with the order of lots. Walks of slices.SortStableFunc with the order of lots, and of ordered. Walk of cornered: the corners of some lots and of the next one. Walks of shelved, greatest, taken. -/
import Derived.Test.YtgpfmnjianflaaaDoorM1
import Derived.Deep.RegionHeld3
import Derived.ArgAppend
set_option linter.unusedSimpArgs false
set_option linter.unusedVariables false
set_option linter.constructorNameAsVariable false
namespace Go.Proofs.YtgpfmnjianflaaaDoor
open Go.RowKit

def cmpV (a b : Int) : Int := if a < b then -1 else if b < a then 1 else 0
theorem isNaN_any (w : World) (a : Int) : Calls Tryd.prog 98 #[.int .i64 a] w fun e w' => e = .returned (.bool false) ∧ w' = w := by
  have hb : (a != a) = false := by simp
  go_enter Tryd.func98, Tryd.ntmps98
  go_wp2
  go_ret
  exact ⟨by simp, rfl⟩
theorem Compare_any (w : World) (a b : Int) : Calls Tryd.prog 95 #[.int .i64 a, .int .i64 b] w fun e w' => e = .returned (.int .i64 (cmpV a b)) ∧ w' = w := by
  go_enter Tryd.func95, Tryd.ntmps95
  go_wp2_with fail
  refine (isNaN_any w a).mono ?_
  rintro e w1 ⟨rfl, rfl⟩
  go_wp2_with fail
  refine (isNaN_any w1 b).mono ?_
  rintro e w2 ⟨rfl, rfl⟩
  by_cases h1 : a < b
  · have HF : Hid (cmpV a b = -1) := if_pos h1
    go_wp2
    go_ret
    exact ⟨by rw [HF.out]; rfl, rfl⟩
  · by_cases h2 : b < a
    · have HF : Hid (cmpV a b = 1) := by show _ = _; unfold cmpV; rw [if_neg h1, if_pos h2]
      go_wp2
      go_ret
      exact ⟨by rw [HF.out]; rfl, rfl⟩
    · have HF : Hid (cmpV a b = 0) := by show _ = _; unfold cmpV; rw [if_neg h1, if_neg h2]
      go_wp2
      go_ret
      exact ⟨by rw [HF.out]; rfl, rfl⟩
def orV (x y : Int) : Int := if x ≠ 0 then x else y
theorem Or_any (w : World) (x y : Int) (g : Nat) (hg : g = w.heap.size) :
    Calls Tryd.prog 94 #[.slice (some ⟨g, 0, none⟩) 2 2] (w.alloc (.cells #[.int .i64 x, .int .i64 y] 3)) fun e w' => e = .returned (.int .i64 (orV x y)) ∧ Pure w w' := by
  subst hg
  obtain ⟨X, hX⟩ : ∃ V : World, w.alloc (.cells #[.int .i64 x, .int .i64 y] 3) = V := ⟨_, rfl⟩
  have hb : Blk w.heap.size 3 #[.int .i64 x, .int .i64 y] X := by rw [← hX]; exact Blk.new _ _ _
  have hP : Pure w X := by rw [← hX]; exact (Diff.refl _).alloc _
  rw [hX]
  clear hX
  have c0 := hb.at 0
  have c1 := hb.at 1
  have HP := Lib.hid hP
  clear hP hb
  go_enter Tryd.func94, Tryd.ntmps94
  go_wp2
  go_loopw [8] (fun i wr => ∃ k : Nat, k ≤ 2 ∧ i = .int .i64 k ∧ Hid (1 ≤ k → x = 0) ∧ Hid (2 ≤ k → y = 0) ∧ wr = X) (fun i _ => 2 - (intOf i).toNat)
  case atStart => exact ⟨0, by omega, rfl, fun h => by omega, fun h => by omega, rfl⟩
  case round =>
    obtain ⟨k, hk, rfl, H1, H2, rfl⟩ := hrel
    have hk3 : k = 0 ∨ k = 1 ∨ k = 2 := by omega
    rcases hk3 with rfl | rfl | rfl
    · by_cases hx : x = 0
      · subst hx
        go_wp2
        go_roundw
        case rel => exact ⟨1, by omega, by go_num, by simp [Hid], fun h => by omega, trivial⟩
        case measure => simp [intOf]
      · have hb : (x != 0) = true := by simpa using hx
        have HF : Hid (orV x y = x) := if_pos hx
        go_wp2
        go_ret
        exact ⟨by rw [HF.out]; rfl, HP.out⟩
    · have hx := H1.out (by omega)
      by_cases hy : y = 0
      · subst hy
        go_wp2
        go_roundw
        case rel => exact ⟨2, by omega, by go_num, fun _ => hx, by simp [Hid], trivial⟩
        case measure => simp [intOf]
      · have hb : (y != 0) = true := by simpa using hy
        have HF : Hid (orV x y = y) := if_neg (by rw [hx]; simp)
        clear hx
        go_wp2
        go_ret
        exact ⟨by rw [HF.out]; rfl, HP.out⟩
    · have HF : Hid (orV x y = 0) := by show _ = _; unfold orV; rw [if_neg (by rw [H1.out (by omega)]; simp), H2.out (by omega)]
      go_wp2
      go_ret
      exact ⟨by rw [HF.out]; rfl, HP.out⟩
/-- What ordering two lots answers. -/
def cmpL (L : LT) (x y : Nat) : Int := orV (cmpV (L.s x) (L.s y)) (cmpV (L.p x) (L.p y))
theorem cmpL_lt (L : LT) (x y : Nat) : decide (cmpL L x y < 0) = L.lt x y := by
  unfold cmpL orV LT.lt cmpV
  by_cases h1 : L.s x < L.s y
  · simp [h1]
  · by_cases h2 : L.s y < L.s x
    · simp [h1, h2]; omega
    · have e : L.s x = L.s y := by omega
      by_cases h3 : L.p x < L.p y
      · simp [e, h3]
      · by_cases h4 : L.p y < L.p x
        · simp [e, h3, h4]
        · simp [e, h3, h4]
theorem order_any (w : World) (L : LT) (p : Option Addr) (cap gs x y : Nat) (hx : x < L.n) (hy : y < L.n) (hn : L.n ≤ 1000) (hl : LotsAt w.heap.size w p L) (hb : Blk gs 87 #[.slice p L.n cap] w) :
    Calls Tryd.prog 93 #[.int .i64 x, .int .i64 y, .pointer (some ⟨gs, 0, none⟩)] w fun e w' => e = .returned (.int .i64 (cmpL L x y)) ∧ Pure w w' := by
  have hmx : Tryd.prog.follows .mixedOrders = true := by kernel_rfl
  obtain ⟨b, o, rfl, hbb, hx1, hx2⟩ := hl x hx
  obtain ⟨b', o', he, -, hy1, hy2⟩ := hl y hy
  cases he
  have c0 := hb.at 0
  have l0 := hb.lt
  have hxi : (x : Int) < L.n := by omega
  have hyi : (y : Int) < L.n := by omega
  go_enter Tryd.func93, Tryd.ntmps93
  go_wp2
  go_region
  · have n0 : Blk w.heap.size 71 #[.int .i64 (L.s x), .int .i64 (L.p x)] (((w.alloc (.cells #[.int .i64 (L.s x), .int .i64 (L.p x)] 71)).alloc (.cells #[.int .i64 (L.s y), .int .i64 (L.p y)] 71)).drew) := (Blk.new w 71 _).alloc _
    have n1 : Blk (w.heap.size + 1) 71 #[.int .i64 (L.s y), .int .i64 (L.p y)] (((w.alloc (.cells #[.int .i64 (L.s x), .int .i64 (L.p x)] 71)).alloc (.cells #[.int .i64 (L.s y), .int .i64 (L.p y)] 71)).drew) := by
      have := Blk.new (w.alloc (.cells #[.int .i64 (L.s x), .int .i64 (L.p x)] 71)) 71 #[.int .i64 (L.s y), .int .i64 (L.p y)]; rwa [World.size_alloc] at this
    have hP : Pure w (((w.alloc (.cells #[.int .i64 (L.s x), .int .i64 (L.p x)] 71)).alloc (.cells #[.int .i64 (L.s y), .int .i64 (L.p y)] 71)).drew) := (((Diff.refl _).alloc _).alloc _).drew
    have k6 := n0
    have k7 := n1
    clear n0 n1
    generalize hV : ((w.alloc (.cells #[.int .i64 (L.s x), .int .i64 (L.p x)] 71)).alloc (.cells #[.int .i64 (L.s y), .int .i64 (L.p y)] 71)).drew = V at k6 k7 hP ⊢
    generalize hg7 : w.heap.size + 1 = g7 at k7 ⊢
    generalize hg6 : w.heap.size = g6 at k6 ⊢
    have d0 := k6.at 0
    have d1 := k6.at 1
    have d2 := k7.at 0
    have d3 := k7.at 1
    have e6 := k6.lt
    have e7 := k7.lt
    have HP := Lib.hid hP
    clear c0 l0 k6 k7 hP hV hg6 hg7 hx1 hx2 hy1 hy2 hxi hyi
    go_wp2
    have hp0 : Hid (Pure V V.drew) := (Diff.refl V).drew
    have KEY : Hid (∀ w', Pure V w' → w'.cell? ⟨g6, 0, none⟩ = some (.int .i64 (L.s x)) ∧ w'.cell? ⟨g6, 1, none⟩ = some (.int .i64 (L.p x)) ∧ w'.cell? ⟨g7, 0, none⟩ = some (.int .i64 (L.s y)) ∧ w'.cell? ⟨g7, 1, none⟩ = some (.int .i64 (L.p y)) ∧ Hid (Pure V w')) := fun w' hp => by
      refine ⟨?_, ?_, ?_, ?_, hp⟩
      · exact ((pcell hp).1 _ _ e6).trans d0
      · exact ((pcell hp).1 _ _ e6).trans d1
      · exact ((pcell hp).1 _ _ e7).trans d2
      · exact ((pcell hp).1 _ _ e7).trans d3
    go_region_held3 (fun w' => w'.cell? ⟨g6, 0, none⟩ = some (.int .i64 (L.s x)) ∧ w'.cell? ⟨g6, 1, none⟩ = some (.int .i64 (L.p x)) ∧ w'.cell? ⟨g7, 0, none⟩ = some (.int .i64 (L.s y)) ∧ w'.cell? ⟨g7, 1, none⟩ = some (.int .i64 (L.p y)) ∧ Hid (Pure V w'))
      (exact KEY.out _ (by first | exact hp0.out | exact hp0.out.alloc _ | exact hp0.out.trans hp6))
      (first | (go_at_call 95; refine (Compare_any _ _ _).mono ?_; rintro e w5 ⟨rfl, rfl⟩) | (go_at_call 94; refine Calls.mono (Or_any V.drew _ _ _ rfl) ?_; rintro e w6 ⟨rfl, hp6⟩))
    rename_i hHeld
    obtain ⟨-, -, -, -, hp⟩ := hHeld
    have HF : Hid (orV (cmpV (L.s x) (L.s y)) (cmpV (L.p x) (L.p y)) = cmpL L x y) := rfl
    clear KEY hp0
    go_wp2
    go_ret
    exact ⟨by rw [← HF.out]; rfl, HP.out.trans hp.out⟩
  · have n0 : Blk w.heap.size 71 #[.int .i64 (L.s y), .int .i64 (L.p y)] (((w.alloc (.cells #[.int .i64 (L.s y), .int .i64 (L.p y)] 71)).alloc (.cells #[.int .i64 (L.s x), .int .i64 (L.p x)] 71)).drew) := (Blk.new w 71 _).alloc _
    have n1 : Blk (w.heap.size + 1) 71 #[.int .i64 (L.s x), .int .i64 (L.p x)] (((w.alloc (.cells #[.int .i64 (L.s y), .int .i64 (L.p y)] 71)).alloc (.cells #[.int .i64 (L.s x), .int .i64 (L.p x)] 71)).drew) := by
      have := Blk.new (w.alloc (.cells #[.int .i64 (L.s y), .int .i64 (L.p y)] 71)) 71 #[.int .i64 (L.s x), .int .i64 (L.p x)]; rwa [World.size_alloc] at this
    have hP : Pure w (((w.alloc (.cells #[.int .i64 (L.s y), .int .i64 (L.p y)] 71)).alloc (.cells #[.int .i64 (L.s x), .int .i64 (L.p x)] 71)).drew) := (((Diff.refl _).alloc _).alloc _).drew
    have k6 := n1
    have k7 := n0
    clear n0 n1
    generalize hV : ((w.alloc (.cells #[.int .i64 (L.s y), .int .i64 (L.p y)] 71)).alloc (.cells #[.int .i64 (L.s x), .int .i64 (L.p x)] 71)).drew = V at k6 k7 hP ⊢
    generalize hg6 : w.heap.size + 1 = g6 at k6 ⊢
    generalize hg7 : w.heap.size = g7 at k7 ⊢
    have d0 := k6.at 0
    have d1 := k6.at 1
    have d2 := k7.at 0
    have d3 := k7.at 1
    have e6 := k6.lt
    have e7 := k7.lt
    have HP := Lib.hid hP
    clear c0 l0 k6 k7 hP hV hg6 hg7 hx1 hx2 hy1 hy2 hxi hyi
    go_wp2
    have hp0 : Hid (Pure V V.drew) := (Diff.refl V).drew
    have KEY : Hid (∀ w', Pure V w' → w'.cell? ⟨g6, 0, none⟩ = some (.int .i64 (L.s x)) ∧ w'.cell? ⟨g6, 1, none⟩ = some (.int .i64 (L.p x)) ∧ w'.cell? ⟨g7, 0, none⟩ = some (.int .i64 (L.s y)) ∧ w'.cell? ⟨g7, 1, none⟩ = some (.int .i64 (L.p y)) ∧ Hid (Pure V w')) := fun w' hp => by
      refine ⟨?_, ?_, ?_, ?_, hp⟩
      · exact ((pcell hp).1 _ _ e6).trans d0
      · exact ((pcell hp).1 _ _ e6).trans d1
      · exact ((pcell hp).1 _ _ e7).trans d2
      · exact ((pcell hp).1 _ _ e7).trans d3
    go_region_held3 (fun w' => w'.cell? ⟨g6, 0, none⟩ = some (.int .i64 (L.s x)) ∧ w'.cell? ⟨g6, 1, none⟩ = some (.int .i64 (L.p x)) ∧ w'.cell? ⟨g7, 0, none⟩ = some (.int .i64 (L.s y)) ∧ w'.cell? ⟨g7, 1, none⟩ = some (.int .i64 (L.p y)) ∧ Hid (Pure V w'))
      (exact KEY.out _ (by first | exact hp0.out | exact hp0.out.alloc _ | exact hp0.out.trans hp6))
      (first | (go_at_call 95; refine (Compare_any _ _ _).mono ?_; rintro e w5 ⟨rfl, rfl⟩) | (go_at_call 94; refine Calls.mono (Or_any V.drew _ _ _ rfl) ?_; rintro e w6 ⟨rfl, hp6⟩))
    rename_i hHeld
    obtain ⟨-, -, -, -, hp⟩ := hHeld
    have HF : Hid (orV (cmpV (L.s x) (L.s y)) (cmpV (L.p x) (L.p y)) = cmpL L x y) := rfl
    clear KEY hp0
    go_wp2
    go_ret
    exact ⟨by rw [← HF.out]; rfl, HP.out.trans hp.out⟩
end Go.Proofs.YtgpfmnjianflaaaDoor
namespace Go.Proofs.YtgpfmnjianflaaaDoor
open Go.RowKit

/-- The cells of a list of numbers. -/
def arrN (l : List Nat) : Array Value := (l.map fun k : Nat => Value.int .i64 (k : Int)).toArray
theorem arrN_get (l : List Nat) (k : Nat) : (arrN l)[k]? = (l[k]?).map fun k : Nat => Value.int .i64 (k : Int) := by simp [arrN]
theorem arrN_set (l : List Nat) (k v : Nat) : (arrN l).setIfInBounds k (.int .i64 (v : Int)) = arrN (l.set k v) := by
  simp [arrN, List.map_set]
theorem swap_list (F U : List Nat) (x y : Nat) : ((F ++ y :: x :: U).set (F.length + 1) y).set F.length x = F ++ x :: y :: U := by
  have e1 : (F ++ y :: x :: U).set (F.length + 1) y = F ++ y :: y :: U := by
    rw [List.set_append_right _ _ (Nat.le_succ _)]
    have : F.length + 1 - F.length = 1 := by omega
    rw [this]; rfl
  rw [e1, List.set_append_right _ _ (Nat.le_refl _), Nat.sub_self]
  rfl
theorem get_mid (F U : List Nat) (x : Nat) : (F ++ x :: U)[F.length]? = some x := by simp
theorem get_mid2 (F U : List Nat) (x y : Nat) : (F ++ y :: x :: U)[F.length + 1]? = some x := by
  rw [List.getElem?_append_right (by omega)]
  simp
/-- The lots behind the first i. -/
def restN (i n : Nat) : List Nat := List.range' i (n - i)
theorem restN_cons {i n : Nat} (h : i < n) : restN i n = i :: restN (i + 1) n := by
  unfold restN
  have e : n - i = (n - (i + 1)) + 1 := by omega
  rw [e, List.range'_succ]
theorem restN_nil (n : Nat) : restN n n = [] := by unfold restN; simp
/-- Within the inner loop: how the list stands when lot i is at place j. -/
structure InS (L : LT) (i j : Nat) (l : List Nat) : Prop where
  ex : ∃ F T, (L.ordR i).reverse = F ++ T ∧ F.length = j ∧ (∀ y, y ∈ T → L.lt i y = true) ∧ l = F ++ i :: (T ++ restN (i + 1) L.n)
theorem InS.start (L : LT) (i : Nat) (hi : i < L.n) : InS L i i ((L.ordR i).reverse ++ restN i L.n) :=
  ⟨(L.ordR i).reverse, [], by simp, by simp [ordR_length], fun y h => (by cases h), by rw [restN_cons hi]; simp⟩
theorem InS.stop {L : LT} {i j : Nat} {l : List Nat} (h : InS L i j l) (hs : j = 0 ∨ ∃ y : Nat, l[j - 1]? = some y ∧ L.lt i y = false) : l = (L.ordR (i + 1)).reverse ++ restN (i + 1) L.n := by
  obtain ⟨F, T, h1, h2, h3, h4⟩ := h.ex
  have := ins_between L i T F h3 fun y hy => by
    rcases hs with rfl | ⟨z, hz, hz2⟩
    · have : F = [] := List.length_eq_zero_iff.1 h2
      rw [this] at hy; cases hy
    · have hF : 0 < F.length := by
        cases F with
        | nil => cases hy
        | cons a b => simp
      rw [h4, List.getElem?_append_left (by omega)] at hz
      rw [List.getLast?_eq_getElem?] at hy
      rw [← h2, hy] at hz
      cases hz; exact hz2
  rw [← h1, List.reverse_reverse] at this
  rw [h4, LT.ordR, this]
  simp
theorem InS.mem {L : LT} {i j : Nat} {l : List Nat} (h : InS L i j l) (hj : 0 < j) : ∃ F y U, l = F ++ y :: i :: U ∧ F.length + 1 = j ∧ y < i := by
  obtain ⟨F, T, h1, h2, h3, h4⟩ := h.ex
  obtain ⟨F', y, rfl⟩ : ∃ F' y, F = F' ++ [y] := by
    rcases List.eq_nil_or_concat F with e | ⟨F', y, e⟩
    · subst e; simp at h2; omega
    · exact ⟨F', y, by rw [e, List.concat_eq_append]⟩
  refine ⟨F', y, T ++ restN (i + 1) L.n, by rw [h4]; simp, by simpa using h2, ?_⟩
  have : y ∈ (L.ordR i).reverse := by rw [h1]; simp
  exact (ordR_mem L y i).1 (List.mem_reverse.1 this)
theorem InS.step {L : LT} {i j : Nat} {F U : List Nat} {y : Nat} (h : InS L i j (F ++ y :: i :: U)) (hF : F.length + 1 = j) (hl : L.lt i y = true) : InS L i F.length (F ++ i :: y :: U) := by
  obtain ⟨F2, T, h1, h2, h3, h4⟩ := h.ex
  obtain ⟨F', z, rfl⟩ : ∃ F' y, F2 = F' ++ [y] := by
    rcases List.eq_nil_or_concat F2 with e | ⟨F', y, e⟩
    · subst e; simp at h2; omega
    · exact ⟨F', y, by rw [e, List.concat_eq_append]⟩
  have hlen : F.length = F'.length := by simp at h2; omega
  have h5 : F ++ y :: i :: U = F' ++ z :: i :: (T ++ restN (i + 1) L.n) := by rw [h4]; simp
  obtain ⟨e1, e2⟩ := List.append_inj h5 hlen
  simp only [List.cons.injEq, true_and] at e2
  obtain ⟨rfl, rfl⟩ := e2
  subst e1
  refine ⟨F, y :: T, by rw [h1]; simp, rfl, fun x hx => ?_, by simp⟩
  rcases List.mem_cons.1 hx with rfl | hx
  · exact hl
  · exact h3 x hx
theorem InS.length {L : LT} {i j : Nat} {l : List Nat} (h : InS L i j l) (hi : i < L.n) : l.length = L.n := by
  obtain ⟨F, T, h1, h2, h3, h4⟩ := h.ex
  have h5 : (L.ordR i).reverse.length = i := by rw [List.length_reverse, ordR_length]
  rw [h1, List.length_append] at h5
  rw [h4]
  simp only [List.length_append, List.length_cons, restN, List.length_range']
  omega

theorem LotsAt.off {B : Nat} {w w' : World} {p : Option Addr} {L : LT} {g : Nat} (h : LotsAt B w p L) (hd : Diff (fun x => x = g) w w') (hB : B ≤ w.heap.size) (hg : B ≤ g) : LotsAt B w' p L := h.diff hd hB (fun k hk e => by omega)
/-- What is known of the sort's memory: the list in block g, the lots, and where they are told. -/
structure SW (B g gs : Nat) (p : Option Addr) (cap : Nat) (L : LT) (w0 : World) (l : List Nat) (w : World) : Prop where
  row : Blk g 3 (arrN l) w
  lots : LotsAt B w p L
  st : Blk gs 87 #[.slice p L.n cap] w
  df : Diff (fun x => x = g) w0 w
  hB : B ≤ g
  ne : gs ≠ g
theorem SW.to {B g gs : Nat} {p : Option Addr} {cap : Nat} {L : LT} {w0 : World} {l : List Nat} {w w' : World} (h : SW B g gs p cap L w0 l w) (hp : Pure w w') : SW B g gs p cap L w0 l w' :=
  ⟨h.row.to hp, h.lots.diff hp (Nat.le_trans h.hB (Nat.le_of_lt h.row.lt)) (fun _ _ => id), h.st.to hp, h.df.trans (hp.mono fun _ _ e => e.elim), h.hB, h.ne⟩
theorem SW.put {B g gs : Nat} {p : Option Addr} {cap : Nat} {L : LT} {w0 : World} {l : List Nat} {w : World} (h : SW B g gs p cap L w0 l w) (k v : Nat) : SW B g gs p cap L w0 (l.set k v) (w.setCell ⟨g, k, none⟩ (.int .i64 (v : Int))) := by
  have hd : Diff (fun x => x = g) w (w.setCell ⟨g, k, none⟩ (.int .i64 (v : Int))) := (Diff.refl (O := fun x => x = g) w).setCell (p := ⟨g, k, none⟩) (fun _ => rfl) _
  refine ⟨?_, h.lots.off hd (Nat.le_trans h.hB (Nat.le_of_lt h.row.lt)) h.hB, h.st.diff hd h.ne, h.df.trans hd, h.hB, h.ne⟩
  have := h.row.set k (.int .i64 (v : Int))
  rw [arrN_set] at this
  exact this
theorem SW.cell {B g gs : Nat} {p : Option Addr} {cap : Nat} {L : LT} {w0 : World} {l : List Nat} {w : World} (h : SW B g gs p cap L w0 l w) {k v : Nat} (hk : l[k]? = some v) : w.cell? ⟨g, k, none⟩ = some (.int .i64 (v : Int)) := by
  rw [h.row.at, arrN_get, hk]; rfl
theorem SW.call {B g gs : Nat} {p : Option Addr} {cap : Nat} {L : LT} {w0 : World} {l : List Nat} {w : World} (h : SW B g gs p cap L w0 l w) (hn : L.n ≤ 1000) {x y : Nat} (hx : x < L.n) (hy : y < L.n) :
    Calls Tryd.prog 93 #[.int .i64 x, .int .i64 y, .pointer (some ⟨gs, 0, none⟩)] w fun e w' => e = .returned (.int .i64 (cmpL L x y)) ∧ Pure w w' :=
  order_any w L p cap gs x y hx hy hn (h.lots.mono (Nat.le_trans h.hB (Nat.le_of_lt h.row.lt))) h.st

set_option maxHeartbeats 2000000 in
theorem insertion_any (w : World) (L : LT) (p : Option Addr) (cap B g gs c : Nat) (hn : L.n ≤ 1000) (hpos : 0 < L.n) (hS : SW B g gs p cap L w (List.range L.n) w) :
    Calls Tryd.prog 99 #[.slice (some ⟨g, 0, none⟩) L.n c, .int .i64 0, .int .i64 L.n, .func (.func 93) #[] #[.pointer (some ⟨gs, 0, none⟩)]] w fun e w' => e = .returned (.tuple #[]) ∧ SW B g gs p cap L w (L.ordR L.n).reverse w' := by
  have hmx : Tryd.prog.follows .mixedOrders = true := by kernel_rfl
  have HS := Lib.hid hS
  clear hS
  have h0 : Hid (SW B g gs p cap L w ((L.ordR 1).reverse ++ restN 1 L.n) w) := by
    have e : (L.ordR 1).reverse ++ restN 1 L.n = List.range L.n := by
      have e1 : L.ordR 1 = [0] := rfl
      rw [e1, List.range_eq_range']
      have := restN_cons (i := 0) (n := L.n) (by omega)
      unfold restN at this ⊢
      rw [Nat.sub_zero] at this
      rw [this]; rfl
    rw [e]; exact HS.out
  go_enter Tryd.func99, Tryd.ntmps99
  go_wp2
  go_loopw [8] (fun iv wr => ∃ i : Nat, 1 ≤ i ∧ i ≤ L.n ∧ iv = .int .i64 i ∧ Hid (SW B g gs p cap L w ((L.ordR i).reverse ++ restN i L.n) wr)) (fun iv _ => L.n - (intOf iv).toNat)
  case atStart => exact ⟨1, Nat.le_refl _, by omega, by simp, h0.out⟩
  case round =>
    obtain ⟨i, hi1, hi, rfl, HI⟩ := hrel
    by_cases hlt : i < L.n
    · go_wp2
      obtain ⟨wo, hwo⟩ : ∃ V, V = wr := ⟨_, rfl⟩
      go_loopw [9] (fun jv wr2 => ∃ (j : Nat) (l : List Nat), j ≤ i ∧ jv = .int .i64 j ∧ Hid (InS L i j l) ∧ Hid (SW B g gs p cap L w l wr2)) (fun jv _ => (intOf jv).toNat)
      case atStart => exact ⟨i, _, Nat.le_refl _, rfl, InS.start L i hlt, HI.out⟩
      case round =>
        obtain ⟨j, l, hj, rfl, HN, HW⟩ := hrel
        by_cases hj0 : j = 0
        · subst hj0
          have HE := Lib.hid (HN.out.stop (.inl rfl))
          go_wp2
          go_region
          go_wp2
          go_roundw
          case rel => exact ⟨i + 1, by omega, by omega, by go_num, by have := HW.out; rw [HE.out] at this; exact this.to (Diff.refl _).drew⟩
          case measure => simp [intOf]; omega
        · obtain ⟨F, y, U, rfl, hF, hyi⟩ := HN.out.mem (by omega)
          obtain ⟨m, hm⟩ : ∃ m, F.length = m := ⟨_, rfl⟩
          have c1 := HW.out.cell (get_mid2 F U i y)
          have c0 := HW.out.cell (get_mid F (i :: U) y)
          rw [hF] at c1
          rw [hm] at c0
          have hgl := HW.out.row.lt
          have hlen := HN.out.length hlt
          have hFn : j < L.n := by simp at hlen; omega
          have hjm : j = m + 1 := by omega
          have hj1 : (j : Int) < (L.n : Int) := by omega
          have hj2 : (m : Int) < (L.n : Int) := by omega
          have hj4 : (j : Int) - 1 = (m : Int) := by omega
          have hwj : IntKind.i64.wrap ((j : Int) - 1) = (m : Int) := by rw [hj4]; exact IntWalk.i64_in _ (by omega)
          have hj3 : (0 : Int) < (j : Int) := by omega
          have hj5 : 0 < j := by omega
          have hj6 : decide (0 < j) = true := by simpa using hj5
          have HM := Lib.hid hm
          have HFj := Lib.hid hF
          have HJM := Lib.hid hjm
          clear hlen hm hF hjm hj4
          go_wp2
          have hp0 : Hid (Pure wr wr.drew) := (Diff.refl wr).drew
          have HG := Lib.hid hgl
          have KEY : Hid (∀ w', Pure wr w' → w'.cell? ⟨g, m, none⟩ = some (.int .i64 (y : Int)) ∧ w'.cell? ⟨g, j, none⟩ = some (.int .i64 (i : Int)) ∧ Hid (Pure wr w')) := fun w' hp => by
            exact ⟨((pcell hp).1 _ _ hgl).trans c0, ((pcell hp).1 _ _ hgl).trans c1, hp⟩
          go_region_held3 (fun w' => w'.cell? ⟨g, m, none⟩ = some (.int .i64 (y : Int)) ∧ w'.cell? ⟨g, j, none⟩ = some (.int .i64 (i : Int)) ∧ Hid (Pure wr w'))
            (exact KEY.out _ (by first | exact hp0.out | exact hp0.out.trans hp6))
            (first | (go_at_call 93; refine Calls.mono ((HW.out.to hp0.out).call hn hlt (Nat.lt_trans hyi hlt)) ?_; rintro e w6 ⟨rfl, hp6⟩))
          rename_i hHeld
          obtain ⟨k0, k1, hp⟩ := hHeld
          have HW6 := Lib.hid (HW.out.to hp.out)
          have hg6 := HW6.out.row.lt
          have fz := fun o => HW6.out.row.fz o
          clear KEY hp0 hp6 hp c0 c1
          cases hv : L.lt i y with
          | false =>
            have hc : ¬ cmpL L i y < 0 := by have := cmpL_lt L i y; rw [hv] at this; simpa using this
            have HE := Lib.hid (HN.out.stop (.inr ⟨y, by have e : j - 1 = F.length := by have := HFj.out; omega
                                                         rw [e]; exact get_mid F (i :: U) y, hv⟩))
            clear hv
            go_wp2
            go_roundw
            case rel => exact ⟨i + 1, by omega, by omega, by go_num, by have := HW6.out; rw [HE.out] at this; exact this⟩
            case measure => simp [intOf]; omega
          | true =>
            have hc : cmpL L i y < 0 := by have := cmpL_lt L i y; rw [hv] at this; simpa using this
            have HV := Lib.hid hv
            clear hv
            have ks : (w6.setCell ⟨g, j, none⟩ (.int .i64 (y : Int))).cell? ⟨g, m, none⟩ = some (.int .i64 (y : Int)) := by
              rw [World.cell?_setCell_other _ _ _ _ (by have := HJM.out; intro e; injection e with e1 e2; omega)]
              exact k0
            go_wp2
            go_region
            go_wp2
            go_roundw
            case rel =>
              refine ⟨m, F ++ i :: y :: U, by have := HJM.out; omega, rfl, ?_, ?_⟩
              · have := HN.out.step HFj.out HV.out
                rw [HM.out] at this
                exact this
              · have e := (HW6.out.put j y).put m i
                rw [← HFj.out, ← HM.out, swap_list, HFj.out, HM.out] at e
                exact e.to (Diff.refl _).drew
            case measure => have := HJM.out; simp [intOf]; omega
    · obtain rfl : i = L.n := by omega
      have HF : Hid (SW B g gs p cap L w (L.ordR L.n).reverse wr) := by have := HI.out; rw [restN_nil, List.append_nil] at this; exact this
      go_wp2
      go_end0
      exact ⟨rfl, HF.out⟩
end Go.Proofs.YtgpfmnjianflaaaDoor
namespace Go.Proofs.YtgpfmnjianflaaaDoor
open Go.RowKit

theorem stable_any (w : World) (L : LT) (p : Option Addr) (cap B g gs c : Nat) (hn : L.n < 20) (hpos : 0 < L.n) (hS : SW B g gs p cap L w (List.range L.n) w) :
    Calls Tryd.prog 97 #[.slice (some ⟨g, 0, none⟩) L.n c, .int .i64 L.n, .func (.func 93) #[] #[.pointer (some ⟨gs, 0, none⟩)]] w fun e w' => e = .returned (.tuple #[]) ∧ SW B g gs p cap L w (L.ordR L.n).reverse w' := by
  have HS := Lib.hid hS
  clear hS
  have h1 : ¬ (20 : Int) ≤ (L.n : Int) := by omega
  have h2 : ¬ (20 : Int) < (L.n : Int) := by omega
  go_enter Tryd.func97, Tryd.ntmps97
  go_wp2
  refine wp_loop_rounds 1 ?_
  rw [rounds_succ]
  go_wp2_with fail
  refine (insertion_any w L p cap B g gs c (by omega) hpos HS.out).mono ?_
  rintro e w1 ⟨rfl, hS1⟩
  have HS1 := Lib.hid hS1
  clear hS1
  go_wp2
  refine wp_loop_rounds 1 ?_
  rw [rounds_succ]
  go_wp2
  go_end0
  exact ⟨rfl, HS1.out⟩
theorem sortstable_any (w : World) (L : LT) (p : Option Addr) (cap B g gs c : Nat) (hn : L.n < 20) (hpos : 0 < L.n) (hS : SW B g gs p cap L w (List.range L.n) w) :
    Calls Tryd.prog 92 #[.slice (some ⟨g, 0, none⟩) L.n c, .func (.func 93) #[] #[.pointer (some ⟨gs, 0, none⟩)]] w fun e w' => e = .returned (.tuple #[]) ∧ SW B g gs p cap L w (L.ordR L.n).reverse w' := by
  have HS := Lib.hid hS
  clear hS
  go_enter Tryd.func92, Tryd.ntmps92
  go_wp2_with fail
  refine (stable_any w L p cap B g gs c hn hpos HS.out).mono ?_
  rintro e w1 ⟨rfl, hS1⟩
  have HS1 := Lib.hid hS1
  clear hS1
  go_wp2
  go_end0
  exact ⟨rfl, HS1.out⟩
theorem info3 : (Tryd.prog.info? 3).map (fun i => (i.zero, i.size, i.bytes)) = some (some (.int .i64 0), 1, 8) := by kernel_rfl
theorem made_arr (n : Nat) : madeCells #[.int .i64 0] n = arrN (List.replicate n 0) := by
  apply Array.ext_getElem?
  intro i
  rw [arrN_get]
  by_cases h : i < n
  · simp [madeCells, h, Nat.mod_one]
  · simp [madeCells, h]
theorem range_put {k n : Nat} (h : k < n) : (List.range k ++ List.replicate (n - k) 0).set k k = List.range (k + 1) ++ List.replicate (n - (k + 1)) 0 := by
  rw [List.set_append_right _ _ (by simp)]
  obtain ⟨m, hm⟩ : ∃ m, n - k = m + 1 := ⟨n - k - 1, by omega⟩
  have e : n - (k + 1) = m := by omega
  rw [hm, e, List.length_range, Nat.sub_self, List.replicate_succ, List.range_succ]
  simp
theorem ordered_any (w : World) (L : LT) (p : Option Addr) (cap : Nat) (hn : L.n < 20) (hpos : 0 < L.n) (hl : LotsAt w.heap.size w p L) :
    Calls Tryd.prog 85 #[.agg #[.slice p L.n cap]] w fun e w' => (∃ g c, e = .returned (.slice (some ⟨g, 0, none⟩) L.n c) ∧ Blk g 3 (arrN (L.ordR L.n).reverse) w') ∧ Pure w w' := by
  have HL := Lib.hid hl
  clear hl
  have hnz : 0 < (L.n : Int) := by omega
  have hmk := run_make_row' (P := Tryd.prog) 51 3 (.int .i64 0) 8 Tryd.underlying51 info3 rfl .i64 .i64 L.n (by omega) (by omega)
  go_enter Tryd.func85, Tryd.ntmps85
  go_wp2
  obtain ⟨X, hX⟩ : ∃ V : World, (w.alloc (.cells #[.slice p L.n cap] 87)).alloc (.cells (madeCells #[.int .i64 0] L.n) 3) = V := ⟨_, rfl⟩
  have k1 : Blk w.heap.size 87 #[.slice p L.n cap] X := by rw [← hX]; exact (Blk.new _ _ _).alloc _
  have k2 : Blk (w.heap.size + 1) 3 (arrN (List.range 0 ++ List.replicate (L.n - 0) 0)) X := by
    rw [← hX]
    have := Blk.new (w.alloc (.cells #[.slice p L.n cap] 87)) 3 (madeCells #[.int .i64 0] L.n)
    rw [World.size_alloc] at this
    rw [made_arr] at this ⊢
    exact this
  have hP : Pure w X := by rw [← hX]; exact ((Diff.refl _).alloc _).alloc _
  rw [hX]
  clear hX hmk
  obtain ⟨G, hG⟩ : ∃ G, w.heap.size + 1 = G := ⟨_, rfl⟩
  have HG : Hid (w.heap.size + 1 = G) := hG
  rw [hG] at k2 ⊢
  clear hG
  go_loopw [11] (fun i wr => ∃ k : Nat, k ≤ L.n ∧ i = .int .i64 k ∧ Hid (Blk w.heap.size 87 #[.slice p L.n cap] wr) ∧ Hid (Blk G 3 (arrN (List.range k ++ List.replicate (L.n - k) 0)) wr) ∧ Hid (Pure w wr)) (fun i _ => L.n - (intOf i).toNat)
  case atStart => exact ⟨0, Nat.zero_le _, rfl, k1, k2, hP⟩
  case round =>
    obtain ⟨k, hk, rfl, K1, K2, HP⟩ := hrel
    clear k1 k2 hP
    by_cases hlt : k < L.n
    · have hki : (k : Int) < (L.n : Int) := by omega
      have c0 : wr.cell? ⟨G, k, none⟩ = some (.int .i64 0) := by
        rw [K2.out.at, arrN_get, List.getElem?_append_right (by simp)]
        obtain ⟨m, hm⟩ : ∃ m, L.n - k = m + 1 := ⟨L.n - k - 1, by omega⟩
        rw [hm, List.length_range, Nat.sub_self, List.replicate_succ]
        rfl
      have fz := fun o => K2.out.fz o
      have l2 := K2.out.lt
      go_wp2
      go_roundw
      case rel =>
        refine ⟨k + 1, by omega, by go_num, K1.out.diff ((Diff.refl (O := fun x => x = G) wr).setCell (p := ⟨G, k, none⟩) (fun _ => rfl) _) (by have := HG.out; show ¬ w.heap.size = G; omega), ?_, HP.out.setCell (p := ⟨G, k, none⟩) (fun h => by have := HG.out; have h' : G < w.heap.size := h; omega) _⟩
        have := K2.out.set k (.int .i64 (k : Int))
        rw [arrN_set, range_put hlt] at this
        exact this
      case measure => simp [intOf]; omega
    · obtain rfl : k = L.n := by omega
      have hS : Hid (SW w.heap.size G w.heap.size p cap L wr (List.range L.n) wr) := by
        refine ⟨?_, HL.out.diff HP.out (Nat.le_refl _) (fun _ _ => id), K1.out, Diff.refl _, by have := HG.out; omega, by have := HG.out; omega⟩
        have := K2.out
        rw [Nat.sub_self, List.replicate_zero, List.append_nil] at this
        exact this
      have l1 := K1.out.lt
      go_wp2_with fail
      refine (sortstable_any wr L p cap w.heap.size G w.heap.size L.n hn hpos hS.out).mono ?_
      rintro e w1 ⟨rfl, hS1⟩
      have HS1 := Lib.hid hS1
      clear hS1
      go_wp2
      go_ret
      exact ⟨⟨G, L.n, rfl, HS1.out.row⟩, HP.out.trans' HS1.out.df (fun x hx e => by have := HG.out; have e' : x = G := e; omega)⟩
end Go.Proofs.YtgpfmnjianflaaaDoor
namespace Go.Proofs.YtgpfmnjianflaaaDoor
open Go.RowKit

/-- The cells of a list of numbers, as a list; a slice of them. -/
def valsN (l : List Nat) : List Value := l.map fun k : Nat => Value.int .i64 (k : Int)
def RowN (w : World) (q : Option Addr) (l : List Nat) : Prop := Row w.heap.size w q l.length fun k => .int .i64 (nthN l k : Int)
theorem RowN.to {w w' : World} {q : Option Addr} {l : List Nat} (h : RowN w q l) (hp : Pure w w') : RowN w' q l := Row.to h hp
theorem RowN.at {w : World} {q : Option Addr} {l : List Nat} (h : RowN w q l) {k y : Nat} (hk : k < l.length) (hy : nthN l k = y) : ∃ b o, q = some ⟨b, o, none⟩ ∧ b < w.heap.size ∧ w.cell? ⟨b, o + k, none⟩ = some (.int .i64 (y : Int)) := by
  subst hy; exact h k hk
theorem rowN_own {W : World} {B : Nat} {u : Value} {l : List Nat} {n : Nat} (h : W.ownsRow B 3 1 u n (valsN l)) : ∃ q c, u = .slice q l.length c ∧ RowN W q l ∧ l.length ≤ c := by
  have hn : n = l.length := by have := h.1; unfold valsN at this; rw [List.length_map] at this; omega
  subst hn
  have hcap : ∀ q c, u = .slice q l.length c → l.length ≤ c := fun q c e => by
    rcases h.2 with ⟨e1, e2⟩ | ⟨g, c', cur, e1, h1, h2, h3, _⟩
    · omega
    · rw [e1] at e
      obtain ⟨_, _, e3⟩ := Value.slice.inj e
      omega
  obtain ⟨q, c, rfl, hc⟩ := slice_of_own h
  refine ⟨q, c, rfl, fun k hk => ?_, hcap _ _ rfl⟩
  obtain ⟨g, rfl, hg, hx⟩ := hc k hk
  refine ⟨g, 0, rfl, hg, ?_⟩
  rw [Nat.zero_add, hx]
  unfold valsN nthN
  rw [List.getElem?_map]
  show _ = some (Value.int .i64 ((l.getD k 0 : Nat) : Int))
  rw [List.getD_eq_getElem?_getD, List.getElem?_eq_getElem hk]
  rfl
theorem RowN.adds {X W : World} {q : Option Addr} {C : List Nat} (h : RowN X q C) (hp : Pure X W) (k : Nat) (b : Addr) (hb : q = some b) (j : Nat) (u : Value) (hj : (valsN (C.take k))[j]? = some u) : W.cell? (b.add j) = some u := by
  unfold valsN at hj
  rw [List.getElem?_map, Option.map_eq_some_iff] at hj
  obtain ⟨x, hx, rfl⟩ := hj
  have hjC : j < C.length := by
    have := (List.getElem?_eq_some_iff.1 hx).1
    rw [List.length_take] at this; omega
  have hx2 : nthN C j = x := by
    have hjk : j < k := by
      have := (List.getElem?_eq_some_iff.1 hx).1
      rw [List.length_take] at this; omega
    rw [List.getElem?_take_of_lt hjk] at hx
    unfold nthN
    rw [List.getD_eq_getElem?_getD, hx]; rfl
  obtain ⟨g, o, hq, hg, hc⟩ := h.at hjC hx2
  rw [hq] at hb
  cases hb
  rw [Addr.add_lit]
  exact ((pcell hp).1 _ _ hg).trans hc
theorem new_adds (w : World) (T : TypeId) (x : Value) (g : Nat) (hg : g = w.heap.size) (j : Nat) (u : Value) (hj : [x][j]? = some u) : (w.alloc (.cells #[x] T)).cell? ((⟨g, 0, none⟩ : Addr).add j) = some u := by
  subst hg
  rw [Addr.add_lit, Nat.zero_add, (Blk.new w T #[x]).at]
  match j with
  | 0 => simpa using hj
  | j + 1 => simp at hj
theorem sagB_crs (L : LT) (l m q : Nat) : sagB (L.s l) (L.p l) (L.s m) (L.p m) (L.s q) (L.p q) = decide (0 < L.crs l m q) := by
  unfold sagB LT.crs
  by_cases h : (L.p m - L.p l) * (L.s q - L.s l) < (L.p q - L.p l) * (L.s m - L.s l)
  · have h2 : 0 < (L.p q - L.p l) * (L.s m - L.s l) - (L.p m - L.p l) * (L.s q - L.s l) := by omega
    rw [decide_eq_true h, decide_eq_true h2]
  · have h2 : ¬ 0 < (L.p q - L.p l) * (L.s m - L.s l) - (L.p m - L.p l) * (L.s q - L.s l) := by omega
    rw [decide_eq_false h, decide_eq_false h2]
/-- How far corners are taken off: those that stay are the first k. -/
structure PopS (L : LT) (q : Nat) (C : List Nat) (k : Nat) : Prop where
  le : k ≤ C.length
  pop : popTo L q C.reverse = popTo L q (C.take k).reverse
theorem PopS.start (L : LT) (q : Nat) (C : List Nat) : PopS L q C C.length := ⟨Nat.le_refl _, by rw [List.take_length]⟩
theorem take_two {C : List Nat} {k : Nat} (hk : k + 2 ≤ C.length) : (C.take (k + 2)).reverse = nthN C (k + 1) :: nthN C k :: (C.take k).reverse := by
  have e1 : C.take (k + 1) = C.take k ++ [nthN C k] := by
    rw [List.take_add_one, List.getElem?_eq_getElem (by omega)]
    unfold nthN
    rw [List.getD_eq_getElem?_getD, List.getElem?_eq_getElem (by omega)]
    rfl
  have e2 : C.take (k + 2) = C.take (k + 1) ++ [nthN C (k + 1)] := by
    rw [List.take_add_one, List.getElem?_eq_getElem (by omega)]
    unfold nthN
    rw [List.getD_eq_getElem?_getD, List.getElem?_eq_getElem (by omega)]
    rfl
  rw [e2, e1]
  simp
theorem PopS.step {L : LT} {q : Nat} {C : List Nat} {k : Nat} (h : PopS L q C (k + 2)) (hs : ¬ 0 < L.crs (nthN C k) (nthN C (k + 1)) q) : PopS L q C (k + 1) := by
  have hk := h.le
  refine ⟨by omega, h.pop.trans ?_⟩
  rw [take_two hk, popTo, if_neg hs]
  congr 1
  have e1 : C.take (k + 1) = C.take k ++ [nthN C k] := by
    rw [List.take_add_one, List.getElem?_eq_getElem (by omega)]
    unfold nthN
    rw [List.getD_eq_getElem?_getD, List.getElem?_eq_getElem (by omega)]
    rfl
  rw [e1]; simp
theorem PopS.stop {L : LT} {q : Nat} {C : List Nat} {k : Nat} (h : PopS L q C k) (hs : k ≤ 1 ∨ ∃ j, k = j + 2 ∧ 0 < L.crs (nthN C j) (nthN C (j + 1)) q) : popTo L q C.reverse = (C.take k).reverse := by
  rw [h.pop]
  rcases hs with hs | ⟨j, rfl, hj⟩
  · have hl : (C.take k).length ≤ 1 := by rw [List.length_take]; omega
    match hC : C.take k with
    | [] => rfl
    | [a] => rfl
    | a :: b :: r => rw [hC] at hl; simp at hl
  · rw [take_two h.le, popTo, if_pos hj]
/-- What cornered returns. -/
def cornL (L : LT) (C : List Nat) (q : Nat) : List Nat := (corn L C.reverse q).reverse
theorem cornL_same {L : LT} {C : List Nat} {q : Nat} (h0 : 0 < C.length) (h : L.s (nthN C (C.length - 1)) = L.s q) : cornL L C q = C := by
  unfold cornL corn
  rcases List.eq_nil_or_concat C with rfl | ⟨F, y, rfl⟩
  · simp at h0
  · rw [List.concat_eq_append] at h ⊢
    have e : nthN (F ++ [y]) ((F ++ [y]).length - 1) = y := by
      have := nthN_last F y
      simpa using this
    rw [e] at h
    rw [List.reverse_append]
    simp only [List.reverse_cons, List.reverse_nil, List.nil_append, List.cons_append]
    rw [if_pos h]
    simp
theorem cornL_more {L : LT} {C : List Nat} {q k : Nat} (h : 0 < C.length → ¬ L.s (nthN C (C.length - 1)) = L.s q) (hp : popTo L q C.reverse = (C.take k).reverse) : cornL L C q = C.take k ++ [q] := by
  unfold cornL corn
  rcases List.eq_nil_or_concat C with rfl | ⟨F, y, rfl⟩
  · simp
  · rw [List.concat_eq_append] at h hp ⊢
    have e : nthN (F ++ [y]) ((F ++ [y]).length - 1) = y := by
      have := nthN_last F y
      simpa using this
    rw [e] at h
    have h := h (by simp)
    have e2 : (F ++ [y]).reverse = y :: F.reverse := by simp
    rw [e2] at hp ⊢
    show (if L.s y = L.s q then y :: F.reverse else q :: popTo L q (y :: F.reverse)).reverse = _
    rw [if_neg h, hp]
    simp

theorem grown_pure {w wr w2 : World} {row : Option Nat} (h : Pure w wr) (hg : wr.grownBy w2 row) (hr : ∀ k, row = some k → w.heap.size ≤ k) : Pure w w2 :=
  ⟨hg.os.trans h.os, hg.tape.trans h.tape, hg.output.trans h.output, Nat.le_trans h.size hg.size, fun k hk ho => (hg.block k (Nat.lt_of_lt_of_le hk h.size) (fun e => by have := hr k e.symm; omega)).trans (h.block k hk ho)⟩
theorem info3' : ∃ i, Tryd.prog.info? 3 = some i ∧ i.zero = some (.int .i64 0) ∧ i.size = 1 ∧ i.bytes = 8 := by
  obtain ⟨i, hi, hzz⟩ := Option.map_eq_some_iff.1 info3
  simp only [Prod.mk.injEq] at hzz
  exact ⟨i, hi, hzz.1, hzz.2.1, hzz.2.2⟩
set_option maxHeartbeats 2000000 in
set_option maxRecDepth 20000 in
theorem cornered_any (w : World) (L : LT) (p q : Option Addr) (cap c nx : Nat) (C : List Nat) (hok : L.Ok) (hl : LotsAt w.heap.size w p L) (hq : RowN w q C) (hC : ∀ x, x ∈ C → x < L.n) (hlen : C.length ≤ 8) (hcap : C.length ≤ c) (hnil : C.length = 0 → q = none ∧ c = 0) (hnx : nx < L.n) :
    Calls Tryd.prog 86 #[.agg #[.slice p L.n cap], .slice q C.length c, .int .i64 nx] w fun e w' => (∃ q' c', e = .returned (.slice q' (cornL L C nx).length c') ∧ RowN w' q' (cornL L C nx) ∧ (cornL L C nx).length ≤ c') ∧ Pure w w' := by
  have hmx : Tryd.prog.follows .mixedOrders = true := by kernel_rfl
  have HL := Lib.hid hl
  have HQ := Lib.hid hq
  have hCm : ∀ k, k < C.length → nthN C k < L.n := fun k hk => hC _ (nthN_mem hk)
  have HCM := Lib.hid hCm
  have hn8 := hok.n8
  have HOK := Lib.hid hok
  clear hl hq hC hCm hok
  obtain ⟨bl, ol, hpl, hbl, hs0, hp0⟩ := HL.out nx hnx
  subst hpl
  obtain ⟨m, hm⟩ : ∃ m, C.length = m := ⟨_, rfl⟩
  have HM := Lib.hid hm
  rw [hm] at hlen hcap hnil ⊢
  clear hm
  have hnxi : (nx : Int) < (L.n : Int) := by omega
  go_enter Tryd.func86, Tryd.ntmps86
  go_wp2
  obtain ⟨X, hX⟩ : ∃ V : World, w.alloc (.cells #[.slice (some { block := bl, off := ol }) L.n cap] 87) = V := ⟨_, rfl⟩
  have k1 : Blk w.heap.size 87 #[.slice (some { block := bl, off := ol }) L.n cap] X := by rw [← hX]; exact Blk.new _ _ _
  have hP : Pure w X := by rw [← hX]; exact (Diff.refl _).alloc _
  rw [hX]
  clear hX
  have K1 := Lib.hid k1
  have HP := Lib.hid hP
  have c0 := k1.at 0
  have l0 := k1.lt
  have e1 := ((pcell hP).1 _ _ hbl).trans hs0
  have e2 := ((pcell hP).1 _ _ hbl).trans hp0
  have hbX : bl < X.heap.size := Nat.lt_of_lt_of_le hbl hP.size
  clear k1 hP hs0 hp0
  by_cases hm0 : m = 0
  · obtain ⟨hqn, hcn⟩ := hnil hm0
    subst hqn; subst hcn; subst hm0
    have hC0 : C = [] := List.length_eq_zero_iff.1 HM.out
    have HE : Hid (cornL L C nx = [nx]) := by show _ = _; rw [hC0]; rfl
    clear hC0
    obtain ⟨i3, hi3, hz3, hs3, hb3⟩ := info3'
    go_wp2
    go_region
    go_wp2
    refine wp_loop_rounds 1 ?_
    rw [rounds_succ]
    go_wp2
    go_region
    go_wp2_with (at_builtin; refine wpList_append_grows _ rfl _ _ 51 rfl 3 i3 (.int .i64 0) 1 8 Tryd.underlying51 hi3 hz3 hs3 hb3 rfl (by omega) none 0 0 [] rfl (fun _ => ⟨rfl, rfl⟩) rfl (fun b hb => by cases hb) ⟨_, 0, none⟩ 1 1 [.int .i64 (nx : Int)] rfl rfl (new_adds _ _ _ _ rfl) (by simp [Value.oneCell']) (by omega) (by simp only [maxLen]; omega) (by omega) ?_)
    intro v' w' ho hgr
    have HPW : Hid (Pure w w') := HP.out.trans (grown_pure ((Diff.refl X).drew.drew.alloc _) hgr (fun k h => by cases h))
    obtain ⟨q', c', rfl, hR, hc'⟩ := rowN_own (l := [nx]) (by simpa [valsN] using ho)
    have HRR := Lib.hid hR
    have HCC := Lib.hid hc'
    clear ho hgr hR hc'
    go_wp2
    go_ret
    exact ⟨⟨q', c', by rw [HE.out]; rfl, by rw [HE.out]; exact HRR.out, by rw [HE.out]; exact HCC.out⟩, HPW.out⟩
  · obtain ⟨j, hj⟩ : ∃ j, m = j + 1 := ⟨m - 1, by omega⟩
    have HJ := Lib.hid hj
    obtain ⟨y, hy⟩ : ∃ y, nthN C j = y := ⟨_, rfl⟩
    have HY := Lib.hid hy
    have hjC : j < C.length := by have := HM.out; omega
    obtain ⟨bq, oq, hqq, hbq, hcq⟩ := HQ.out.at hjC hy
    subst hqq
    have hyn : y < L.n := by rw [← hy]; exact HCM.out j hjC
    clear hy
    obtain ⟨bl', ol', hpl, -, hs1, hp1⟩ := HL.out y hyn
    cases hpl
    have f1 := ((pcell HP.out).1 _ _ hbq).trans hcq
    have f2 := ((pcell HP.out).1 _ _ hbl).trans hs1
    have hbqX : bq < X.heap.size := Nat.lt_of_lt_of_le hbq HP.out.size
    have hyi : (y : Int) < (L.n : Int) := by omega
    have hm1 : (0 : Int) < (m : Int) := by omega
    have hm2 : 0 < m := by omega
    have hm3 : decide (0 < m) = true := by simpa using hm2
    have hwj : IntKind.i64.wrap ((m : Int) - 1) = (j : Int) := by rw [show (m : Int) - 1 = (j : Int) by omega]; exact IntWalk.i64_in _ (by omega)
    have hjl : (j : Int) < (m : Int) := by omega
    clear hcq hs1 hp1 hj hjC
    by_cases hse : L.s y = L.s nx
    · have hb1 : (L.s y == L.s nx) = true := by simpa using hse
      have HF : Hid (cornL L C nx = C) := cornL_same (by have := HM.out; omega) (by
        have := HM.out
        have := HJ.out
        rw [show C.length - 1 = j by omega, HY.out]; exact hse)
      clear hse
      go_wp2
      go_region
      go_wp2
      go_ret
      exact ⟨⟨_, c, by rw [HF.out, HM.out]; rfl, by rw [HF.out]; exact HQ.out.to HP.out.drew, by rw [HF.out, HM.out]; exact hcap⟩, HP.out.drew⟩
    · have hb1 : (L.s y == L.s nx) = false := by simpa using hse
      have HNE : Hid (0 < C.length → ¬ L.s (nthN C (C.length - 1)) = L.s nx) := fun _ => by
        have := HM.out
        have := HJ.out
        rw [show C.length - 1 = j by omega, HY.out]; exact hse
      clear hse
      go_wp2
      go_region
      go_wp2
      have HX := Lib.hid e1
      have HX2 := Lib.hid e2
      have HLX : Hid (LotsAt X.heap.size X (some { block := bl, off := ol }) L) := HL.out.to HP.out
      have HQX := Lib.hid (HQ.out.to HP.out)
      clear f1 f2 hbqX hyi hm1 hm2 hm3 hwj hjl hb1 c0 l0
      go_loopw [7] (fun i wr => ∃ k : Nat, 1 ≤ k ∧ k ≤ m ∧ i = .int .i64 k ∧ Hid (PopS L nx C k) ∧ Hid (Pure X wr)) (fun i _ => (intOf i).toNat)
      case atStart => exact ⟨m, by omega, Nat.le_refl _, rfl, by have := PopS.start L nx C; rw [HM.out] at this; exact this, (Diff.refl _).drew⟩
      case round =>
        obtain ⟨k, hk1, hkm, rfl, HS, HPX⟩ := hrel
        by_cases hk : k = 1
        · subst hk
          have HE := Lib.hid (cornL_more HNE.out (HS.out.stop (.inl (Nat.le_refl _))))
          obtain ⟨i3, hi3, hz3, hs3, hb3⟩ := info3'
          have hc1 : (1 : Int) ≤ (c : Int) := by omega
          go_wp2
          go_region
          go_wp2_with (at_builtin; refine wpList_append_grows _ rfl _ _ 51 rfl 3 i3 (.int .i64 0) 1 8 Tryd.underlying51 hi3 hz3 hs3 hb3 rfl (by omega) (some ⟨bq, oq, none⟩) 1 1 (valsN (C.take 1)) rfl (fun h => by cases h) (by simp [valsN, List.length_take]; have := HM.out; omega) (fun b hb j u hj => RowN.adds HQX.out (HPX.out.drew.alloc _) 1 b hb j u hj) ⟨_, 0, none⟩ 1 1 [.int .i64 (nx : Int)] rfl rfl (new_adds _ _ _ _ rfl) (by simp [Value.oneCell']) (by omega) (by simp only [maxLen]; omega) (by omega) ?_)
          intro v' w' ho hgr
          have HPW : Hid (Pure w w') := HP.out.trans (grown_pure (HPX.out.drew.alloc _) hgr (fun k h => by cases h))
          obtain ⟨q', c', rfl, hR, hc'⟩ := rowN_own (l := C.take 1 ++ [nx]) (by simpa [valsN] using ho)
          have HRR := Lib.hid hR
          have HCC := Lib.hid hc'
          clear ho hgr hR hc'
          go_wp2
          go_ret
          exact ⟨⟨q', c', by rw [HE.out]; rfl, by rw [HE.out]; exact HRR.out, by rw [HE.out]; exact HCC.out⟩, HPW.out⟩
        · obtain ⟨u, hu⟩ : ∃ u, k = u + 2 := ⟨k - 2, by omega⟩
          obtain ⟨v, hv⟩ : ∃ v, v = u + 1 := ⟨_, rfl⟩
          have HU : Hid (k = u + 2) := hu
          have HV : Hid (v = u + 1) := hv
          have huC : u < C.length := by have := HM.out; omega
          have hvC : v < C.length := by have := HM.out; omega
          obtain ⟨x0, hx0⟩ : ∃ x, nthN C u = x := ⟨_, rfl⟩
          obtain ⟨x1, hx1⟩ : ∃ x, nthN C v = x := ⟨_, rfl⟩
          have HX0 := Lib.hid hx0
          have HX1 := Lib.hid hx1
          obtain ⟨b0, o0, hq0, hb0, hc0⟩ := HQX.out.at huC hx0
          cases hq0
          obtain ⟨b1, o1, hq1, hb1, hc1⟩ := HQX.out.at hvC hx1
          cases hq1
          have hn0 : x0 < L.n := by rw [← hx0]; exact HCM.out u huC
          have hn1 : x1 < L.n := by rw [← hx1]; exact HCM.out v hvC
          obtain ⟨b2, o2, hq2, hb2, hs0, hp0⟩ := HLX.out x0 hn0
          cases hq2
          obtain ⟨b3, o3, hq3, -, hs1, hp1⟩ := HLX.out x1 hn1
          cases hq3
          have hpx := HPX.out
          have g0 := ((pcell hpx).1 _ _ hb0).trans hc0
          have g1 := ((pcell hpx).1 _ _ hb0).trans hc1
          have g2 := ((pcell hpx).1 _ _ hb2).trans hs0
          have g3 := ((pcell hpx).1 _ _ hb2).trans hp0
          have g4 := ((pcell hpx).1 _ _ hb2).trans hs1
          have g5 := ((pcell hpx).1 _ _ hb2).trans hp1
          have g6 := ((pcell hpx).1 _ _ hb2).trans HX.out
          have g7 := ((pcell hpx).1 _ _ hb2).trans HX2.out
          have KW := (K1.out.to hpx)
          have g8 : wr.cell? ⟨w.heap.size, 0, none⟩ = some (.slice (some { block := bl, off := ol }) L.n cap) := KW.at 0
          have l8 := KW.lt
          have lq : bq < wr.heap.size := Nat.lt_of_lt_of_le hb0 hpx.size
          have ll : bl < wr.heap.size := Nat.lt_of_lt_of_le hb2 hpx.size
          have i0 : (x0 : Int) < (L.n : Int) := by omega
          have i1 : (x1 : Int) < (L.n : Int) := by omega
          have i2 : (u : Int) < (m : Int) := by omega
          have i3' : (v : Int) < (m : Int) := by omega
          have i4 : (1 : Int) < (k : Int) := by omega
          have i5 : 1 < k := by omega
          have i6 : decide (1 < k) = true := by simpa using i5
          have w1 : IntKind.i64.wrap ((k : Int) - 1) = (v : Int) := by rw [show (k : Int) - 1 = (v : Int) by omega]; exact IntWalk.i64_in _ (by omega)
          have w2 : IntKind.i64.wrap ((k : Int) - 2) = (u : Int) := by rw [show (k : Int) - 2 = (u : Int) by omega]; exact IntWalk.i64_in _ (by omega)
          have hkc : (k : Int) ≤ (c : Int) := by omega
          obtain ⟨i3, hi3, hz3, hs3, hb3⟩ := info3'
          clear hu hv huC hvC hx0 hx1 hb0 hb2 hc0 hc1 hs0 hp0 hs1 hp1 hpx KW e1 e2 hbX
          go_wp2
          have hp0 : Hid (Pure wr wr.drew) := (Diff.refl wr).drew
          have KEY : Hid (∀ w', Pure wr w' → w'.cell? ⟨w.heap.size, 0, none⟩ = some (.slice (some { block := bl, off := ol }) L.n cap) ∧ w'.cell? ⟨bq, oq + u, none⟩ = some (.int .i64 (x0 : Int)) ∧ w'.cell? ⟨bq, oq + v, none⟩ = some (.int .i64 (x1 : Int)) ∧ w'.cell? ⟨bl, ol + x0 * 2, none⟩ = some (.int .i64 (L.s x0)) ∧ w'.cell? ⟨bl, ol + x0 * 2 + 1, none⟩ = some (.int .i64 (L.p x0)) ∧ w'.cell? ⟨bl, ol + x1 * 2, none⟩ = some (.int .i64 (L.s x1)) ∧ w'.cell? ⟨bl, ol + x1 * 2 + 1, none⟩ = some (.int .i64 (L.p x1)) ∧ w'.cell? ⟨bl, ol + nx * 2, none⟩ = some (.int .i64 (L.s nx)) ∧ w'.cell? ⟨bl, ol + nx * 2 + 1, none⟩ = some (.int .i64 (L.p nx)) ∧ Hid (Pure wr w')) := fun w' hp => ⟨((pcell hp).1 _ _ l8).trans g8, ((pcell hp).1 _ _ lq).trans g0, ((pcell hp).1 _ _ lq).trans g1, ((pcell hp).1 _ _ ll).trans g2, ((pcell hp).1 _ _ ll).trans g3, ((pcell hp).1 _ _ ll).trans g4, ((pcell hp).1 _ _ ll).trans g5, ((pcell hp).1 _ _ ll).trans g6, ((pcell hp).1 _ _ ll).trans g7, hp⟩
          go_region_held3 (fun w' => w'.cell? ⟨w.heap.size, 0, none⟩ = some (.slice (some { block := bl, off := ol }) L.n cap) ∧ w'.cell? ⟨bq, oq + u, none⟩ = some (.int .i64 (x0 : Int)) ∧ w'.cell? ⟨bq, oq + v, none⟩ = some (.int .i64 (x1 : Int)) ∧ w'.cell? ⟨bl, ol + x0 * 2, none⟩ = some (.int .i64 (L.s x0)) ∧ w'.cell? ⟨bl, ol + x0 * 2 + 1, none⟩ = some (.int .i64 (L.p x0)) ∧ w'.cell? ⟨bl, ol + x1 * 2, none⟩ = some (.int .i64 (L.s x1)) ∧ w'.cell? ⟨bl, ol + x1 * 2 + 1, none⟩ = some (.int .i64 (L.p x1)) ∧ w'.cell? ⟨bl, ol + nx * 2, none⟩ = some (.int .i64 (L.s nx)) ∧ w'.cell? ⟨bl, ol + nx * 2 + 1, none⟩ = some (.int .i64 (L.p nx)) ∧ Hid (Pure wr w'))
            (exact KEY.out _ (by first | exact hp0.out | exact hp0.out.trans hp6))
            (first | (go_at_call 96; refine Calls.mono (sags_any _ _ _ _ _ _ _ ⟨HOK.out.s0 x0 hn0, HOK.out.s1 x0 hn0⟩ ⟨HOK.out.s0 x1 hn1, HOK.out.s1 x1 hn1⟩ ⟨HOK.out.s0 nx hnx, HOK.out.s1 nx hnx⟩ ⟨HOK.out.p0 x0 hn0, HOK.out.p1 x0 hn0⟩ ⟨HOK.out.p0 x1 hn1, HOK.out.p1 x1 hn1⟩ ⟨HOK.out.p0 nx hnx, HOK.out.p1 nx hnx⟩) ?_; rintro e w6 ⟨rfl, hp6⟩))
          rename_i hHeld
          obtain ⟨-, -, -, -, -, -, -, -, -, hp⟩ := hHeld
          clear KEY hp0
          have HP6 : Hid (Pure X w6) := HPX.out.trans hp.out
          cases hv : sagB (L.s x0) (L.p x0) (L.s x1) (L.p x1) (L.s nx) (L.p nx) with
          | true =>
            have HE : Hid (cornL L C nx = C.take k ++ [nx]) := cornL_more HNE.out (HS.out.stop (.inr ⟨u, HU.out, by
              rw [sagB_crs, decide_eq_true_eq] at hv
              rw [← HV.out, HX0.out, HX1.out]; exact hv⟩))
            clear hv hp6 hp
            go_wp2_with (at_builtin; refine wpList_append_grows _ rfl _ _ 51 rfl 3 i3 (.int .i64 0) 1 8 Tryd.underlying51 hi3 hz3 hs3 hb3 rfl (by omega) (some ⟨bq, oq, none⟩) k k (valsN (C.take k)) rfl (fun h => by cases h) (by simp [valsN, List.length_take]; have := HM.out; omega) (fun b hb j u hj => RowN.adds HQX.out (HP6.out.alloc _) k b hb j u hj) ⟨_, 0, none⟩ 1 1 [.int .i64 (nx : Int)] rfl rfl (new_adds _ _ _ _ rfl) (by simp [Value.oneCell']) (by omega) (by simp only [maxLen]; omega) (by omega) ?_)
            intro v' w' ho hgr
            have HPW : Hid (Pure w w') := HP.out.trans (grown_pure (HP6.out.alloc _) hgr (fun k h => by cases h))
            obtain ⟨q', c', rfl, hR, hc'⟩ := rowN_own (l := C.take k ++ [nx]) (by simpa [valsN] using ho)
            have HRR := Lib.hid hR
            have HCC := Lib.hid hc'
            clear ho hgr hR hc'
            go_wp2
            go_ret
            exact ⟨⟨q', c', by rw [HE.out]; rfl, by rw [HE.out]; exact HRR.out, by rw [HE.out]; exact HCC.out⟩, HPW.out⟩
          | false =>
            have HS2 : Hid (PopS L nx C v) := by
              rw [sagB_crs, decide_eq_false_iff_not] at hv
              have h := HS.out
              rw [HU.out] at h
              have := h.step (by rw [← HV.out, HX0.out, HX1.out]; exact hv)
              rw [← HV.out] at this
              exact this
            clear hv hp6 hp
            go_wp2
            go_roundw
            case rel => exact ⟨v, by have := HV.out; omega, by omega, rfl, HS2.out, by have := HP6.out; exact this⟩
            case measure => have := HV.out; have := HU.out; simp [intOf]; omega
end Go.Proofs.YtgpfmnjianflaaaDoor
namespace Go.Proofs.YtgpfmnjianflaaaDoor
open Go.RowKit

theorem corn_sub (L : LT) (R : List Nat) (q x : Nat) (h : x ∈ corn L R q) : x = q ∨ x ∈ R := by
  unfold corn at h
  cases R with
  | nil => exact .inl (List.mem_singleton.1 h)
  | cons m r =>
    have h : x ∈ (if L.s m = L.s q then m :: r else q :: popTo L q (m :: r)) := h
    split at h
    · exact .inr h
    · rcases List.mem_cons.1 h with h | h
      · exact .inl h
      · exact .inr (popTo_sub L q _ x h)
theorem corn_pos (L : LT) (R : List Nat) (q : Nat) : 0 < (corn L R q).length := by
  unfold corn
  cases R with
  | nil => simp
  | cons m r =>
    show 0 < (if L.s m = L.s q then m :: r else q :: popTo L q (m :: r)).length
    split <;> simp
theorem hull_sub (L : LT) : ∀ (R : List Nat) x, x ∈ L.hull R → x ∈ R
  | [], x, h => h
  | q :: r, x, h => by
    rcases corn_sub L _ q x h with h | h
    · exact List.mem_cons.2 (.inl h)
    · exact List.mem_cons.2 (.inr (hull_sub L r x h))
/-- The corners of the first k lots in their order. -/
def cornTo (L : LT) (k : Nat) : List Nat := (L.hull (((L.ordR L.n).reverse.take k).reverse)).reverse
theorem cornTo_zero (L : LT) : cornTo L 0 = [] := rfl
theorem ord_len (L : LT) : (L.ordR L.n).reverse.length = L.n := by rw [List.length_reverse, ordR_length]
theorem cornTo_succ (L : LT) {k : Nat} (hk : k < L.n) : cornL L (cornTo L k) (nthN (L.ordR L.n).reverse k) = cornTo L (k + 1) := by
  unfold cornL cornTo
  have hl := ord_len L
  have e1 : (L.ordR L.n).reverse.take (k + 1) = (L.ordR L.n).reverse.take k ++ [nthN (L.ordR L.n).reverse k] := by
    rw [List.take_add_one, List.getElem?_eq_getElem (by omega)]
    unfold nthN
    rw [List.getD_eq_getElem?_getD, List.getElem?_eq_getElem (by omega)]
    rfl
  rw [e1, List.reverse_append, List.reverse_reverse]
  rfl
theorem cornTo_all (L : LT) : cornTo L L.n = L.corners := by
  unfold cornTo LT.corners LT.cornR
  have hl := ord_len L
  have e : (L.ordR L.n).reverse.take L.n = (L.ordR L.n).reverse := List.take_of_length_le (by omega)
  rw [e, List.reverse_reverse]
theorem cornTo_lt (L : LT) (k x : Nat) (h : x ∈ cornTo L k) : x < L.n := by
  unfold cornTo at h
  have h := hull_sub L _ x (List.mem_reverse.1 h)
  have h := List.mem_of_mem_take (List.mem_reverse.1 h)
  exact (ordR_mem L x L.n).1 (List.mem_reverse.1 h)
theorem cornTo_len (L : LT) (k : Nat) : (cornTo L k).length ≤ L.n := by
  unfold cornTo
  rw [List.length_reverse]
  have := hull_length L ((L.ordR L.n).reverse.take k).reverse
  rw [List.length_reverse, List.length_take, ord_len] at this
  omega
theorem cornTo_pos (L : LT) {k : Nat} (h0 : 0 < k) (hk : k ≤ L.n) : 0 < (cornTo L k).length := by
  obtain ⟨j, rfl⟩ : ∃ j, k = j + 1 := ⟨k - 1, by omega⟩
  rw [← cornTo_succ L (show j < L.n by omega)]
  unfold cornL
  rw [List.length_reverse]
  exact corn_pos _ _ _
theorem ord_lt (L : LT) {k : Nat} (hk : k < L.n) : nthN (L.ordR L.n).reverse k < L.n := by
  have := nthN_mem (l := (L.ordR L.n).reverse) (i := k) (by rw [ord_len]; exact hk)
  exact (ordR_mem L _ L.n).1 (List.mem_reverse.1 this)
theorem arrN_cell {w : World} {g : Nat} {l : List Nat} (h : Blk g 3 (arrN l) w) {k : Nat} (hk : k < l.length) : w.cell? ⟨g, k, none⟩ = some (.int .i64 (nthN l k : Int)) := by
  rw [h.at, arrN_get, List.getElem?_eq_getElem hk]
  unfold nthN
  rw [List.getD_eq_getElem?_getD, List.getElem?_eq_getElem hk]
  rfl

theorem Blk.ne {w : World} {g g' : Nat} {T T' : TypeId} {c c' : Array Value} (h : Blk g T c w) (h' : Blk g' T' c' w) (hT : T ≠ T') : g ≠ g' := fun e => by
  subst e
  unfold Blk at h h'
  rw [h] at h'
  simp only [Option.some.injEq, Obj.cells.injEq] at h'
  exact hT h'.2.1
theorem RowN.set {w : World} {q : Option Addr} {l : List Nat} (h : RowN w q l) {g : Nat} {T : TypeId} {c : Array Value} (hb : Blk g T c w) (hc : ∀ o : Nat, ∀ x : Int, c[o]? ≠ some (.int .i64 x)) (o : Nat) (v : Value) : RowN (w.setCell ⟨g, o, none⟩ v) q l := by
  intro k hk
  obtain ⟨b, oo, hq, hbb, hcc⟩ := h k hk
  have hne : b ≠ g := fun e => by
    subst e
    rw [hb.at] at hcc
    exact hc _ _ hcc
  exact ⟨b, oo, hq, by simpa using hbb, (World.cell?_of_block (w := w) (Go.Deep.blk_setCell_other _ _ _ _ (show b ≠ g from hne))).trans hcc⟩
theorem slices_no {u v : Value} {a b : Option Addr} {n m c d : Nat} (hu : u = .slice a n c) (hv : v = .slice b m d) (o : Nat) (x : Int) : #[u, v][o]? ≠ some (.int .i64 x) := by
  subst hu; subst hv
  match o with
  | 0 => simp
  | 1 => simp
  | o + 2 => simp
set_option maxHeartbeats 2000000 in
theorem shelved_any (w : World) (L : LT) (p : Option Addr) (cap : Nat) (hok : L.Ok) (hl : LotsAt w.heap.size w p L) :
    Calls Tryd.prog 65 #[.slice p L.n cap] w fun e w' => (∃ q c, e = .returned (.agg #[.slice p L.n cap, .slice q L.corners.length c]) ∧ RowN w' q L.corners) ∧ Pure w w' := by
  have HL := Lib.hid hl
  have HOK := Lib.hid hok
  have hn1 := hok.n0
  have hn8 := hok.n8
  clear hl hok
  go_enter Tryd.func65, Tryd.ntmps65
  go_wp2_with fail
  obtain ⟨X, hX⟩ : ∃ V : World, (w.alloc (.cells #[.slice none 0 0, .slice none 0 0] 89)).alloc (.cells #[.slice p L.n cap, .slice none 0 0] 89) = V := ⟨_, rfl⟩
  have k0 : Blk w.heap.size 89 #[.slice none 0 0, .slice none 0 0] X := by rw [← hX]; exact (Blk.new _ _ _).alloc _
  have k1 : Blk (w.heap.size + 1) 89 #[.slice p L.n cap, .slice none 0 0] X := by
    rw [← hX]
    have := Blk.new (w.alloc (.cells #[.slice none 0 0, .slice none 0 0] 89)) 89 #[.slice p L.n cap, .slice none 0 0]
    rwa [World.size_alloc] at this
  have hP : Pure w X := by rw [← hX]; exact ((Diff.refl _).alloc _).alloc _
  rw [hX]
  clear hX
  refine (ordered_any X L p cap (by omega) hn1 (HL.out.to hP)).mono ?_
  rintro e w1 ⟨⟨g, oc, rfl, hord⟩, hp1⟩
  obtain ⟨G, hG⟩ : ∃ G, w.heap.size + 1 = G := ⟨_, rfl⟩
  have HG : Hid (w.heap.size + 1 = G) := hG
  rw [hG] at k1 ⊢
  have HP1 := Lib.hid (hP.trans hp1)
  have K0 := Lib.hid (k0.to hp1)
  have K1 := Lib.hid (k1.to hp1)
  have HO := Lib.hid hord
  clear hord hp1 hP k0 k1 hG
  go_wp2
  go_loopw [13] (fun i wr => ∃ (k : Nat) (q : Option Addr) (c : Nat), k ≤ L.n ∧ i = .int .i64 k ∧ Hid (Blk G 89 #[.slice p L.n cap, .slice q (cornTo L k).length c] wr) ∧ Hid (RowN wr q (cornTo L k)) ∧ Hid ((cornTo L k).length ≤ c ∧ (k = 0 → q = none ∧ c = 0)) ∧ Hid (Blk w.heap.size 89 #[.slice none 0 0, .slice none 0 0] wr) ∧ Hid (Blk g 3 (arrN (L.ordR L.n).reverse) wr) ∧ Hid (Pure w wr)) (fun i _ => L.n - (intOf i).toNat)
  case atStart => exact ⟨0, none, 0, Nat.zero_le _, rfl, K1.out, fun k hk => by simp [cornTo_zero] at hk, ⟨by simp [cornTo_zero], fun _ => ⟨rfl, rfl⟩⟩, K0.out, HO.out, HP1.out⟩
  case round =>
    obtain ⟨k, q, c, hk, rfl, K1, HR, HCC, K0, HO, HP⟩ := hrel
    by_cases hlt : k < L.n
    · have hki : (k : Int) < (L.n : Int) := by omega
      obtain ⟨y, hy⟩ : ∃ y, nthN (L.ordR L.n).reverse k = y := ⟨_, rfl⟩
      have HY := Lib.hid hy
      have hyn : y < L.n := by rw [← hy]; exact ord_lt L hlt
      have c2 := arrN_cell HO.out (k := k) (by rw [ord_len]; exact hlt)
      rw [hy] at c2
      have lo := HO.out.lt
      have c0 := K1.out.at 0
      have c1 := K1.out.at 1
      have lg := K1.out.lt
      clear hy
      go_wp2_with fail
      refine (cornered_any wr L p q cap c y (cornTo L k) HOK.out (HL.out.to HP.out) HR.out (cornTo_lt L k) (Nat.le_trans (cornTo_len L k) hn8) HCC.out.1 (fun h => by
        rcases Nat.eq_zero_or_pos k with h0 | h0
        · exact HCC.out.2 h0
        · have := cornTo_pos L h0 hk; omega) hyn).mono ?_
      rintro e w2 ⟨⟨q', c', rfl, hR, hc'⟩, hp2⟩
      have hcs := cornTo_succ L hlt
      rw [HY.out] at hcs
      rw [hcs] at hR hc' ⊢
      have HR2 := Lib.hid hR
      have HC2 := Lib.hid hc'
      have K12 := Lib.hid (K1.out.to hp2)
      have K02 := Lib.hid (K0.out.to hp2)
      have HO2 := Lib.hid (HO.out.to hp2)
      have HP2 := Lib.hid (HP.out.trans hp2)
      clear hcs hR hc' hp2 c0 c1 c2 lo lg
      have c1 := K12.out.at 1
      have fz := fun o => K12.out.fz o
      have lg := K12.out.lt
      go_wp2
      go_roundw
      case rel =>
        refine ⟨k + 1, q', c', by omega, by go_num, K12.out.set 1 (.slice q' (cornTo L (k + 1)).length c'), HR2.out.set K12.out (slices_no rfl rfl) 1 _, ⟨HC2.out, fun h => by omega⟩, ?_, ?_, ?_⟩
        · exact K02.out.diff ((Diff.refl (O := fun x => x = G) w2).setCell (p := ⟨G, 1, none⟩) (fun _ => rfl) _) (by have := HG.out; show ¬ w.heap.size = G; omega)
        · exact HO2.out.diff ((Diff.refl (O := fun x => x = G) w2).setCell (p := ⟨G, 1, none⟩) (fun _ => rfl) _) (HO2.out.ne K12.out (by decide))
        · exact HP2.out.setCell (p := ⟨G, 1, none⟩) (fun h => by have := HG.out; have h' : G < w.heap.size := h; omega) _
      case measure => simp [intOf]; omega
    · obtain rfl : k = L.n := by omega
      have c0 := K1.out.at 0
      have c1 := K1.out.at 1
      have lg := K1.out.lt
      have c2 := K0.out.at 0
      have c3 := K0.out.at 1
      have fz := fun o => K0.out.fz o
      have l0 := K0.out.lt
      have HA := Lib.hid (cornTo_all L)
      go_wp2
      have HRZ := Lib.hid ((HR.out.set K0.out (slices_no rfl rfl) 0 (.slice p L.n cap)).set (K0.out.set 0 (.slice p L.n cap)) (slices_no rfl rfl) 1 (.slice q (cornTo L L.n).length c))
      have HZ : Hid (RowN ((wr.setCell { block := w.heap.size, off := 0 } (.slice p L.n cap)).setCell { block := w.heap.size, off := 1 } (.slice q (cornTo L L.n).length c)) q (cornTo L L.n)) := HRZ.out
      clear HRZ
      rw [HA.out] at HZ K1 HR HCC ⊢
      have HR9 := HZ.out
      clear HZ
      have z := K0.out.set2 (Value.slice p L.n cap) (Value.slice q L.corners.length c)
      have HPZ := HP.out.set2 (g := w.heap.size) (by omega) (Value.slice p L.n cap) (Value.slice q L.corners.length c)
      obtain ⟨Y, hY⟩ : ∃ Y, (wr.setCell { block := w.heap.size, off := 0 } (Value.slice p L.n cap)).setCell { block := w.heap.size, off := 1 } (Value.slice q L.corners.length c) = Y := ⟨_, rfl⟩
      first | rw [hY] at z HPZ HR9 ⊢ | rw [hY] at z HPZ ⊢
      clear hY
      exact bodyPost_ret (v := .agg #[.slice p L.n cap, .slice q L.corners.length c]) (by simp [results, Tryd.results65, go_sem, z.at 0, z.at 1]) rfl ⟨⟨q, c, rfl, HR9⟩, HPZ⟩
end Go.Proofs.YtgpfmnjianflaaaDoor
