/- Lists of bools, by their cells. Nothing of the program. -/
import Derived.Test.YtjlldjekjnlcaaaFlat
namespace Go.Proofs.Ytjlldjekjnlcaaa
open Go.RowKit

def bools (l : List Bool) : List Value := l.map (Value.bool)
theorem bools_length (l : List Bool) : (bools l).length = l.length := by unfold bools; simp
theorem bools_at {l : List Bool} {k : Nat} {p : Bool} (h : l[k]? = some p) : (bools l)[k]? = some (.bool p) := by unfold bools; rw [List.getElem?_map, h]; rfl
theorem bools_set (l : List Bool) (k : Nat) (p : Bool) : (bools l).set k (.bool p) = bools (l.set k p) := by unfold bools; rw [List.map_set]
theorem bools_replicate (n : Nat) (p : Bool) : bools (List.replicate n p) = List.replicate n (.bool p) := by unfold bools; simp
theorem bools_append (l m : List Bool) : bools (l ++ m) = bools l ++ bools m := by unfold bools; simp

def bmarks (m n : Nat) : List Bool := (List.range n).map fun i => mkb ((m + i : Nat) : Int)
theorem bmarks_length (m n : Nat) : (bmarks m n).length = n := by unfold bmarks; simp
theorem bmarks_succ (m n : Nat) : bmarks m (n + 1) = bmarks m n ++ [mkb ((m + n : Nat) : Int)] := by unfold bmarks; rw [List.range_succ]; simp
theorem bmarks_at {m n k : Nat} (h : k < n) : (bmarks m n)[k]? = some (mkb ((m + k : Nat) : Int)) := by unfold bmarks; simp [h]
def bhalf (l : List Bool) (m k : Nat) : List Bool := bmarks m k ++ l.drop k
theorem bhalf_length (l : List Bool) (m k : Nat) (h : k ≤ l.length) : (bhalf l m k).length = l.length := by unfold bhalf; simp [bmarks_length]; omega
theorem bhalf_set {l : List Bool} {m k : Nat} (h : k < l.length) : (bhalf l m k).set k (mkb ((m + k : Nat) : Int)) = bhalf l m (k + 1) := by
  unfold bhalf
  rw [List.set_append_right _ _ (by rw [bmarks_length]; omega), bmarks_length, Nat.sub_self, List.drop_eq_getElem_cons h, List.set_cons_zero, bmarks_succ, List.append_assoc]
  rfl
theorem bhalf_at {l : List Bool} {m k : Nat} (h : k < l.length) : (bhalf l m k)[k]? = some l[k] := by
  unfold bhalf
  rw [List.getElem?_append_right (by rw [bmarks_length]; omega), bmarks_length, Nat.sub_self, List.drop_eq_getElem_cons h]; rfl
theorem bhalf_zero (l : List Bool) (m : Nat) : bhalf l m 0 = l := by unfold bhalf bmarks; simp
theorem bhalf_all (l : List Bool) (m : Nat) : bhalf l m l.length = bmarks m l.length := by unfold bhalf; simp

end Go.Proofs.Ytjlldjekjnlcaaa
