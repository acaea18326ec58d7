/- The element of a rank at its place among the parts; the front of a row. -/
import Derived.Test.YtagibgphegoagaaSelP
import Derived.Deep.RegionHeld3
namespace Go.Proofs.Ytagibgphegoagaa
open Go.RowKit P El Qk
set_option linter.unusedVariables false

theorem row_take {w : World} {g c k : Nat} {L : List Int} (h : CellRow w g (ints L)) (hk : k ≤ L.length) (hc : k ≤ c) : FlatAt w (.slice (some ⟨g, 0, none⟩) k c) k (ints (L.take k)) := by
  refine ⟨_, c, rfl, hc, fun j u hu => ⟨g, 0, rfl, h.1, ?_⟩⟩
  rw [Nat.zero_add]
  refine (h.2 j u ?_).1
  have hj : j < k := by have := (List.getElem?_eq_some_iff.1 hu).1; rw [ints_length, List.length_take] at this; omega
  rw [← hu]; unfold ints; rw [List.map_take, List.getElem?_take_of_lt hj]

namespace Sl
theorem nth_at {L : List Int} {k : Nat} (h : k < L.length) : (duF L ((srt L).getD k 0) ((srt L).getD k 0))[k]? = some ((srt L).getD k 0) := by
  obtain ⟨x, hx⟩ : ∃ x, x = (srt L).getD k 0 := ⟨_, rfl⟩
  rw [← hx]
  have hs := srt_split L x
  have hl := du_lens (Int.le_refl x) L
  have a1 := srt_length (lowF L x)
  have a2 := srt_length (highF L x)
  have hat := at_getD (l := srt L) (k := k) (by rw [srt_length]; exact h)
  rw [← hx, hs] at hat
  by_cases h1 : k < (lowF L x).length
  · rw [List.getElem?_append_left (by omega)] at hat
    have := (low_mem ((srt_perm _).mem_iff.1 (List.mem_of_getElem? hat))).2
    omega
  · by_cases h2 : k < (lowF L x).length + (midF L x x).length
    · unfold duF
      rw [List.append_assoc, List.getElem?_append_right (by omega), List.getElem?_append_left (by omega), List.getElem?_eq_getElem (by omega)]
      exact congrArg some (mid_eq (List.getElem_mem _))
    · rw [List.getElem?_append_right (by omega), List.getElem?_append_right (by omega)] at hat
      have := (high_mem ((srt_perm _).mem_iff.1 (List.mem_of_getElem? hat))).2
      omega
end Sl
end Go.Proofs.Ytagibgphegoagaa
