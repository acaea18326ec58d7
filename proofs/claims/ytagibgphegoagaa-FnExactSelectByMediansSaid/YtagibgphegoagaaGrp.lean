/- The groups of five, as parts of a list. Nothing of the program. -/
import Derived.Test.YtagibgphegoagaaSelP
namespace Go.Proofs.Ytagibgphegoagaa
open Go.RowKit P El Qk Sl
set_option linter.unusedVariables false

theorem grp_part {w : World} {b o c : Nat} {L : List Int} (h : FlatAt w (.slice (some ⟨b, o, none⟩) L.length c) L.length (ints L)) (i d : Nat) (hd : (grp L i).length ≤ d) : FlatAt w (.slice (some ⟨b, o + 5 * i, none⟩) (grp L i).length d) (grp L i).length (ints (grp L i)) := by
  obtain ⟨a0, c0, e0, _, h1⟩ := h
  simp at e0
  obtain ⟨rfl, rfl⟩ := e0
  refine ⟨some ⟨b, o + 5 * i, none⟩, _, rfl, hd, fun j u hu => ?_⟩
  have hj : j < (grp L i).length := by have := (List.getElem?_eq_some_iff.1 hu).1; rw [ints_length] at this; exact this
  have hj2 := grp_length L i
  have hu2 : (ints L)[5 * i + j]? = some u := by
    rw [← hu]
    unfold ints grp
    rw [List.map_take, List.map_drop, List.getElem?_take_of_lt (by omega), List.getElem?_drop]
  obtain ⟨b2, o2, e2, hb2, hc⟩ := h1 _ _ hu2
  simp at e2
  obtain ⟨rfl, rfl⟩ := e2
  exact ⟨b, o + 5 * i, rfl, hb2, by rw [Nat.add_assoc]; exact hc⟩

end Go.Proofs.Ytagibgphegoagaa
