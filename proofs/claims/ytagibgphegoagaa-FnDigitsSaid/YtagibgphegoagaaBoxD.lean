/- Two boxes of numbers, one behind the other. -/
import Derived.Test.YtagibgphegoagaaFlat
namespace Go.Proofs.Ytagibgphegoagaa
open Go.RowKit
set_option linter.unusedVariables false

theorem digit_boxes (b p : Int) (w : World) : Below w.heap.size w ((w.alloc (.cells #[.int .i64 b] 3)).alloc (.cells #[.int .i64 p] 3)) ∧
    ∀ W, Below ((w.alloc (.cells #[.int .i64 b] 3)).alloc (.cells #[.int .i64 p] 3)).heap.size ((w.alloc (.cells #[.int .i64 b] 3)).alloc (.cells #[.int .i64 p] 3)) W →
      W.cell? ⟨w.heap.size, 0, none⟩ = some (.int .i64 b) ∧ W.cell? ⟨w.heap.size + 1, 0, none⟩ = some (.int .i64 p) := by
  have hs : ((w.alloc (.cells #[.int .i64 b] 3)).alloc (.cells #[.int .i64 p] 3)).heap.size = w.heap.size + 2 := by simp
  refine ⟨((Below.refl _ _).alloc (Nat.le_refl _) _).alloc (by simp) _, fun W hW => ⟨?_, ?_⟩⟩
  · rw [hW.cell (p := ⟨w.heap.size, 0, none⟩) (by rw [hs]; show w.heap.size < w.heap.size + 2; omega)]
    simp
  · rw [hW.cell (p := ⟨w.heap.size + 1, 0, none⟩) (by rw [hs]; show w.heap.size + 1 < w.heap.size + 2; omega)]
    simp


end Go.Proofs.Ytagibgphegoagaa
