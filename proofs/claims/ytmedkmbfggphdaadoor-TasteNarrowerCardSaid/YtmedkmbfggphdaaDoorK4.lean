/- Facts of a drawn region's operations, in few words. No condition. -/
import Derived.Test.YtmedkmbfggphdaaDoorM01
namespace Go.Proofs.YtmedkmbfggphdaaDoor
open Go.RowKit

def AllT (d : Nat → Bool) : List Nat → Prop
  | [] => True
  | j :: l => d j = true ∧ AllT d l
def AllF (d : Nat → Bool) : List Nat → Prop
  | [] => True
  | j :: l => d j = false ∧ AllF d l
theorem AllT.of {d : Nat → Bool} : ∀ l : List Nat, (∀ j ∈ l, d j = true) → AllT d l
  | [], _ => trivial
  | j :: l, h => ⟨h j (by simp), AllT.of l (fun k hk => h k (by simp [hk]))⟩
theorem AllF.of {d : Nat → Bool} : ∀ l : List Nat, (∀ j ∈ l, d j = false) → AllF d l
  | [], _ => trivial
  | j :: l, h => ⟨h j (by simp), AllF.of l (fun k hk => h k (by simp [hk]))⟩
theorem Closed.facts {l : List Oper} {d : Nat → Bool} (h : Closed l d) (i : Nat) (hi : d i = false) {o : Oper} (ho : l[i]? = some o) (hd : (depsOf o).all d = true) (A D : List Nat)
    (hA : A.all (fun j => ancB l 30 i j) = true) (hD : D.all (fun j => ancB l 30 j i) = true) : d i = false ∧ AllT d A ∧ AllF d D :=
  ⟨hi, AllT.of A (fun j hj => h.pos i ho hd j 29 (List.all_eq_true.1 hA j hj)), AllF.of D (fun j hj => h.neg hi j (List.all_eq_true.1 hD j hj))⟩
theorem AllT.all {n : Nat} {d : Nat → Bool} (h : (List.range n).all d = true) (L : List Nat) (hL : L.all (fun j => decide (j < n)) = true) : AllT d L :=
  AllT.of L (fun j hj => List.all_eq_true.1 h j (by simpa using List.all_eq_true.1 hL j hj))
end Go.Proofs.YtmedkmbfggphdaaDoor
