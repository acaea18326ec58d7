/- Lists of strings in two words. -/
import Derived.Test.YtcbeoihgaccjcaaDoorStrB
import Derived.Test.YtcbeoihgaccjcaaDoorNest
namespace Go.Proofs.YtcbeoihgaccjcaaDoor
open Go.RowKit

def strs (xs : List ByteArray) : List Value := xs.map Value.string
theorem strs_length (xs : List ByteArray) : (strs xs).length = xs.length := by unfold strs; simp
theorem strs_at {xs : List ByteArray} {k : Nat} {x : ByteArray} (h : xs[k]? = some x) : (strs xs)[k]? = some (.string x) := by unfold strs; rw [List.getElem?_map, h]; rfl

theorem StrsAt.flat {w : World} {v : Value} {xs : List ByteArray} (h : StrsAt w v xs) : FlatAt w v xs.length (strs xs) := by
  obtain ⟨a, c, rfl, hc, h⟩ := h
  refine ⟨a, c, rfl, hc, fun j u hu => ?_⟩
  unfold strs at hu
  rw [List.getElem?_map] at hu
  cases hx : xs[j]? with
  | none => rw [hx] at hu; simp at hu
  | some x =>
    rw [hx] at hu
    obtain rfl := Option.some.inj hu
    exact h j x hx
theorem FlatAt.strs {w : World} {v : Value} {xs : List ByteArray} (h : FlatAt w v xs.length (strs xs)) : StrsAt w v xs := by
  obtain ⟨a, c, rfl, hc, h⟩ := h
  exact ⟨a, c, rfl, hc, fun j x hx => h j _ (strs_at hx)⟩

end Go.Proofs.YtcbeoihgaccjcaaDoor
