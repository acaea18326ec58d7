/- slices.Sort of a part of a row of numbers, by its contract. -/
import Derived.Test.YthmcjmjkmmbepaaISb
import Derived.Test.YthmcjmjkmmbepaaShelfS
import Derived.Shelf.Sort.Plain
namespace Go.Proofs.Ythmcjmjkmmbepaa
open Go.RowKit Go.Sort P El Mt
set_option linter.unusedVariables false

theorem merge_srt (l : List Int) : l.mergeSort (fun x y => decide (x ≤ y)) = El.srt l := by
  refine El.srt_uniq ?_ (List.mergeSort_perm _ _)
  have h := List.pairwise_mergeSort (le := fun x y : Int => decide (x ≤ y)) (fun a b c h1 h2 => by simp only [decide_eq_true_eq] at *; omega) (fun a b => by simp only [Bool.or_eq_true, decide_eq_true_eq]; omega) l
  exact h.imp fun h => by simpa using h

theorem grown_mid {w : World} {g n off : Nat} {os : Array Obj} (d : Array Int) : w.grownBy (grow (putRow (Value.int .i64) (Sort.ahead w n) g off d) os) (some g) := by
  refine ⟨rfl, rfl, rfl, by simp, fun k hk hne => ?_⟩
  rw [heap_grow_old _ _ (by simpa using hk)]
  have : g ≠ k := fun e => hne (by rw [e])
  simp [putRow, mapBlock, Sort.ahead, Array.getElem?_modify, this]

theorem ints_left {A X Y : List Int} {j : Nat} (hj : j < A.length) : (ints (A ++ X))[j]? = (ints (A ++ Y))[j]? := by
  rw [ints_append A X, ints_append A Y, List.getElem?_append_left (by rw [ints_length]; exact hj), List.getElem?_append_left (by rw [ints_length]; exact hj)]
theorem ints_right {A X : List Int} {i : Nat} : (ints (A ++ X))[A.length + i]? = (ints X)[i]? := by
  rw [ints_append, List.getElem?_append_right (by rw [ints_length]; omega), ints_length, Nat.add_sub_cancel_left]
theorem ints_right' {A X : List Int} {i : Nat} (h : A.length ≤ i) : (ints (A ++ X))[i]? = (ints X)[i - A.length]? := by
  rw [ints_append, List.getElem?_append_right (by rw [ints_length]; exact h), ints_length]

theorem sorted_mid {w : World} {g n : Nat} {os : Array Obj} {A B B' C : List Int} (h : CellRow w g (ints (A ++ (B ++ C)))) (hl : B'.length = B.length) : CellRow (grow (putRow (Value.int .i64) (Sort.ahead w n) g A.length B'.toArray) os) g (ints (A ++ (B' ++ C))) := by
  have hg : g < (putRow (Value.int .i64) (Sort.ahead w n) g A.length B'.toArray).heap.size := by simpa using h.1
  have hH : Holds (Value.int .i64) (Sort.ahead w n) g A.length B.toArray := fun j hj => by
    have hj' : j < B.length := by simpa using hj
    have e : (ints (A ++ (B ++ C)))[A.length + j]? = some (.int .i64 B.toArray[j]!) := by
      refine ints_at ?_
      rw [List.getElem?_append_right (by omega), Nat.add_sub_cancel_left, List.getElem?_append_left hj', List.getElem?_eq_getElem hj']
      rw [getElem!_pos _ j hj]; simp
    exact h.2 _ _ e
  refine ⟨by rw [size_grow]; omega, fun j u hu => ⟨?_, ?_⟩⟩
  · rw [cell?_grow _ _ _ hg]
    by_cases hj : j < A.length
    · rw [cell?_putRow_other _ _ _ _ _ _ (.inr (.inl hj))]
      refine (h.2 j u ?_).1
      rw [← hu]; exact ints_left hj
    · obtain ⟨i, rfl⟩ : ∃ i, j = A.length + i := ⟨j - A.length, by omega⟩
      have hlt := (List.getElem?_eq_some_iff.1 hu).1
      rw [ints_length, List.length_append, List.length_append] at hlt
      by_cases hi : i < B'.length
      · rw [cell?_putRow _ _ _ _ _ _ hH (by simpa using hl) i (by simpa using hi)]
        rw [← hu, ints_right, ints_append, List.getElem?_append_left (by rw [ints_length]; exact hi)]
        rw [ints_at (List.getElem?_eq_getElem hi), getElem!_pos _ i (by simpa using hi)]; simp
      · rw [cell?_putRow_other _ _ _ _ _ _ (.inr (.inr (by simp; omega)))]
        refine (h.2 (A.length + i) u ?_).1
        rw [← hu, ints_right, ints_right, ints_right' (by omega), ints_right' (by omega), hl]
  · have hf : (putRow (Value.int .i64) (Sort.ahead w n) g A.length B'.toArray).frozen? ⟨g, j, none⟩ = false := by
      rw [frozen?_putRow]
      have hlt := (List.getElem?_eq_some_iff.1 hu).1
      rw [ints_length, List.length_append, List.length_append] at hlt
      have hj : j < (ints (A ++ (B ++ C))).length := by rw [ints_length, List.length_append, List.length_append]; omega
      exact (h.2 j _ (List.getElem?_eq_getElem hj)).2
    rw [frozen?_grow _ _ _ hg]; exact hf

theorem But.of_grown {w w' : World} {g : Nat} (h : w.grownBy w' (some g)) : But g w w' := ⟨h.os, h.tape, h.output, h.size, fun k hk hne => h.block k hk (fun e => hne (by cases e; rfl))⟩

theorem sortPart : SortPart := by
  intro g cap A B C w hr h0 hn
  have hH : Holds (Value.int .i64) w g A.length B.toArray := fun j hj => by
    have hj' : j < B.length := by simpa using hj
    have e : (ints (A ++ (B ++ C)))[A.length + j]? = some (.int .i64 B.toArray[j]!) := by
      refine ints_at ?_
      rw [List.getElem?_append_right (by omega), Nat.add_sub_cancel_left, List.getElem?_append_left hj', List.getElem?_eq_getElem hj', getElem!_pos _ j hj]; simp
    exact hr.2 _ _ e
  refine (Try.slices_Sort_int g A.length cap B w hH hr.1 (by omega)).mono ?_
  rintro e w' ⟨rfl, n, os, rfl⟩
  rw [merge_srt B]
  exact ⟨rfl, sorted_mid hr (srt_length B), But.of_grown (grown_mid _)⟩

end Go.Proofs.Ythmcjmjkmmbepaa
