/- Lists of numbers, by their cells. Nothing of the program. -/
import Derived.Test.YthmcjmjkmmbepaaFlat
namespace Go.Proofs.Ythmcjmjkmmbepaa
open Go.RowKit

def ints (l : List Int) : List Value := l.map (Value.int .i64)
theorem ints_length (l : List Int) : (ints l).length = l.length := by unfold ints; simp
theorem ints_at {l : List Int} {k : Nat} {p : Int} (h : l[k]? = some p) : (ints l)[k]? = some (.int .i64 p) := by unfold ints; rw [List.getElem?_map, h]; rfl
theorem ints_set (l : List Int) (k : Nat) (p : Int) : (ints l).set k (.int .i64 p) = ints (l.set k p) := by unfold ints; rw [List.map_set]
theorem ints_replicate (n : Nat) (p : Int) : ints (List.replicate n p) = List.replicate n (.int .i64 p) := by unfold ints; simp
theorem ints_append (l m : List Int) : ints (l ++ m) = ints l ++ ints m := by unfold ints; simp

def imarks (m n : Nat) : List Int := (List.range n).map fun i => ((m + i : Nat) : Int)
theorem imarks_length (m n : Nat) : (imarks m n).length = n := by unfold imarks; simp
theorem imarks_succ (m n : Nat) : imarks m (n + 1) = imarks m n ++ [((m + n : Nat) : Int)] := by unfold imarks; rw [List.range_succ]; simp
theorem imarks_at {m n k : Nat} (h : k < n) : (imarks m n)[k]? = some ((m + k : Nat) : Int) := by unfold imarks; simp [h]
def ihalf (l : List Int) (m k : Nat) : List Int := imarks m k ++ l.drop k
theorem ihalf_length (l : List Int) (m k : Nat) (h : k ≤ l.length) : (ihalf l m k).length = l.length := by unfold ihalf; simp [imarks_length]; omega
theorem ihalf_set {l : List Int} {m k : Nat} (h : k < l.length) : (ihalf l m k).set k ((m + k : Nat) : Int) = ihalf l m (k + 1) := by
  unfold ihalf
  rw [List.set_append_right _ _ (by rw [imarks_length]; omega), imarks_length, Nat.sub_self, List.drop_eq_getElem_cons h, List.set_cons_zero, imarks_succ, List.append_assoc]
  rfl
theorem ihalf_at {l : List Int} {m k : Nat} (h : k < l.length) : (ihalf l m k)[k]? = some l[k] := by
  unfold ihalf
  rw [List.getElem?_append_right (by rw [imarks_length]; omega), imarks_length, Nat.sub_self, List.drop_eq_getElem_cons h]; rfl
theorem ihalf_zero (l : List Int) (m : Nat) : ihalf l m 0 = l := by unfold ihalf imarks; simp
theorem ihalf_all (l : List Int) (m : Nat) : ihalf l m l.length = imarks m l.length := by unfold ihalf; simp

end Go.Proofs.Ythmcjmjkmmbepaa
