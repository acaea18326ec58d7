/- A part of a row, partitioned in three, its outer two sorted. Nothing of the program. -/
import Derived.Test.YtipdfmedbcafpaaSeg
import Derived.Test.YtipdfmedbcafpaaQuickP
namespace Go.Proofs.Ytipdfmedbcafpaa
open Go.RowKit P El Qk
set_option linter.unusedVariables false

theorem cut_three {M : List Int} {lt gt : Nat} (h : lt ≤ gt) : M = M.take lt ++ ((M.take gt).drop lt ++ M.drop gt) := by
  have e : M.take lt ++ (M.take gt).drop lt = M.take gt := by
    have := List.take_append_drop lt (M.take gt)
    rw [List.take_take, Nat.min_eq_left h] at this; exact this
  rw [← List.append_assoc, e, List.take_append_drop]
theorem Seg.parts {g o lt gt : Nat} {M : List Int} {w : World} (h : Seg w g o (ints M)) (h1 : lt ≤ gt) (h2 : gt ≤ M.length) :
    Seg w g o (ints (M.take lt)) ∧ Seg w g (o + lt) (ints ((M.take gt).drop lt)) ∧ Seg w g (o + gt) (ints (M.drop gt)) := by
  rw [cut_three (M := M) h1, ints_append, ints_append] at h
  have e1 := h.fst
  have e2 := h.snd.fst
  have e3 := h.snd.snd
  rw [ints_length, List.length_take, Nat.min_eq_left (by omega)] at e2 e3
  rw [ints_length, List.length_drop, List.length_take, Nat.min_eq_left h2, show o + lt + (gt - lt) = o + gt by omega] at e3
  exact ⟨e1, e2, e3⟩
theorem Seg.three {g o n lt gt : Nat} {M A B : List Int} {w2 w3 w4 : World} (h : Seg w2 g o (ints M)) (hM : M.length = n) (h1 : lt ≤ gt) (h2 : gt ≤ n) (hA : A.length = lt) (hB : B.length = n - gt)
    (p1 : SegP g o lt A w2 w3) (p2 : SegP g (o + gt) (n - gt) B w3 w4) : SegP g o n (A ++ ((M.take gt).drop lt ++ B)) w2 w4 := by
  obtain ⟨e1, e2, e3⟩ := h.parts h1 (by omega)
  have hml : ((M.take gt).drop lt).length = gt - lt := by rw [List.length_drop, List.length_take, Nat.min_eq_left (by omega)]
  have m3 := e2.keep p1.2 (.inr (Nat.le_refl _))
  have m4 := m3.keep p2.2 (.inl (by rw [ints_length, hml]; omega))
  have a4 := p1.1.keep p2.2 (.inl (by rw [ints_length, hA]; omega))
  refine ⟨?_, (p1.2.wide (Nat.le_refl _) (by omega)).trans (p2.2.wide (by omega) (by omega))⟩
  rw [ints_append, ints_append]
  exact a4.join (m4.join p2.1 (by rw [ints_length, hml]; omega)) (by rw [ints_length, hA])

end Go.Proofs.Ytipdfmedbcafpaa
