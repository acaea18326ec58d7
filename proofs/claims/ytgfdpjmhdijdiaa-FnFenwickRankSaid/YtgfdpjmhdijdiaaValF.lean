/- Small facts of trees of sums and of cells. -/
import Derived.Test.YtgfdpjmhdijdiaaRetI
import Derived.Test.YtgfdpjmhdijdiaaFenP
namespace Go.Proofs.Ytgfdpjmhdijdiaa
open Go.RowKit Fw
set_option linter.unusedVariables false

theorem valF_yes {S : List Int} (h : OkF S) : valF S = (vl S, true) := if_pos h
theorem valF_no {S : List Int} (h : ¬ OkF S) : valF S = ([], false) := if_neg h
theorem valF_len (l : List Int) (b0 : l.length ≤ 1048576) : (valF l).1.length ≤ 1048576 := by
  by_cases h : OkF l
  · rw [valF_yes h, vl_len]; exact b0
  · rw [valF_no h]; simp
theorem ints_getD {l : List Int} {k : Nat} (h : k < l.length) : (ints l)[k]? = some (.int .i64 (l.getD k 0)) := by
  unfold ints
  rw [List.getElem?_map, List.getElem?_eq_getElem h, List.getD_eq_getElem?_getD, List.getElem?_eq_getElem h]; rfl

theorem but_cell {g : Nat} {a b : World} (h : But g a b) {x o : Nat} (hx : x < a.heap.size) (hne : x ≠ g) : b.cell? ⟨x, o, none⟩ = a.cell? ⟨x, o, none⟩ :=
  World.cell?_of_block (w := a) (a := ⟨x, o, none⟩) (h.block x hx hne)
theorem flat_at {x o k : Nat} {l : List Int} {w : World} (hv : FlatAt w (.slice (some ⟨x, o, none⟩) l.length k) l.length (ints l)) {m : Nat} (hm : m < l.length) : x < w.heap.size ∧ w.cell? ⟨x, o + m, none⟩ = some (.int .i64 (l.getD m 0)) := by
  obtain ⟨a0, c0, e0, _, h⟩ := hv
  simp at e0
  obtain ⟨rfl, rfl⟩ := e0
  obtain ⟨b, o', e2, hbb, hc⟩ := h _ _ (ints_getD hm)
  simp at e2
  obtain ⟨rfl, rfl⟩ := e2
  exact ⟨hbb, hc⟩

end Go.Proofs.Ytgfdpjmhdijdiaa
