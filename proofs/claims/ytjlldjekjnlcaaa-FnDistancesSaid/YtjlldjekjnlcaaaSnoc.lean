/- 'append(append([]int{}, l...), x)', by its runs. -/
import Derived.Test.YtjlldjekjnlcaaaRetI
import Derived.Deep.LoopGhost
import Derived.Deep.CutRange
namespace Go.Proofs.Ytjlldjekjnlcaaa
open Go.RowKit
set_option linter.unusedVariables false

theorem snoc_runs (gl cl : Nat) (L : List Int) (x : Int) (W : World) (h : CellRow W gl (ints L)) (hn : L.length ≤ 1000000) :
    ∃ g1 c1 w1 g2 c2 w2, (heldAppend #[24, 24] 24 #[.slice (some ⟨W.heap.size, 0, none⟩) 0 0, .slice (some ⟨gl, 0, none⟩) L.length cl]).run Try.prog (W.alloc (.cells #[] 3)) = .ok (.slice (some ⟨g1, 0, none⟩) L.length c1) w1 ∧
      (heldAppend #[24, 24] 24 #[.slice (some ⟨g1, 0, none⟩) L.length c1, .slice (some ⟨w1.heap.size, 0, none⟩) 1 1]).run Try.prog (w1.alloc (.cells #[.int .i64 x] 3)) = .ok (.slice (some ⟨g2, 0, none⟩) (L ++ [x]).length c2) w2 ∧
      CellRow w2 g2 (ints (L ++ [x])) ∧ (L ++ [x]).length ≤ c2 ∧ Below W.heap.size W w2 := by
  have hb0 : Below W.heap.size W (W.alloc (.cells #[] 3)) := (Below.refl _ _).alloc (Nat.le_refl _) _
  obtain ⟨v1, w1, r1, h1, b1⟩ := appendMany W.heap.size _ [] gl 0 cl L _ (Held.start W W.heap.size (Nat.le_refl _)) hb0.size (by simp; omega) (fun j u hu => by
    rw [Nat.zero_add]
    exact (hb0.cell (p := ⟨gl, j, none⟩) h.1).trans (h.2 j u hu).1)
  rw [List.nil_append] at h1
  obtain ⟨hh1, g1, c1, rfl⟩ := h1
  have b01 := hb0.trans b1
  obtain ⟨v2, w2, r2, h2, b2⟩ := appendOne W.heap.size _ L x w1 ⟨hh1, g1, c1, rfl⟩ b01.size (by omega)
  obtain ⟨g2, c2, rfl, _, hc2, hr2⟩ := h2.row
  exact ⟨g1, c1, w1, g2, c2, w2, r1, r2, hr2, hc2, b01.trans b2⟩

end Go.Proofs.Ytjlldjekjnlcaaa
