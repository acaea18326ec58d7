/- append of one number, told of where it lies. -/
import Derived.Test.YtjlldjekjnlcaaaRetI
import Derived.Maps.AppendAt
namespace Go.Proofs.Ytjlldjekjnlcaaa
open Go.RowKit

/-- 'append(l, n)' of one number, told of where it lies. -/
theorem appendOneAt (base : Nat) (v : Value) (L : List Int) (x : Int) (w : World) (h : Held base w v L) (hb : base ≤ w.heap.size) (hn : L.length ≤ 1048576) :
    ∃ v' w', (heldAppend #[24, 24] 24 #[v, .slice (some ⟨w.heap.size, 0, none⟩) 1 1]).run Try.prog (w.alloc (.cells #[.int .i64 x] 3)) = .ok v' w' ∧
      Held base w' v' (L ++ [x]) ∧ Below base w w' ∧ (∀ k, k < w.heap.size → v.ownBlock ≠ some k → w'.heap[k]? = w.heap[k]?) ∧ (∀ k, v'.ownBlock = some k → v.ownBlock = some k ∨ w.heap.size ≤ k) := by
  obtain ⟨i0, hi, hz0, hz1, hz2⟩ := info_parts infoIntH
  obtain ⟨h, g, c, rfl⟩ := h
  obtain ⟨v', w', hrun, hown, hgrow, hnil, hblk⟩ := run_append_own_at (P := Try.prog) (w := w.alloc (.cells #[.int .i64 x] 3)) base 24 24 3 i0 (.int .i64 0) 1 8 Try.underlying24 hi hz0 hz1 hz2 rfl (by decide)
    _ L.length (ints L) (World.ownsRow.alloc h _) ⟨w.heap.size, 0, none⟩ 1 1 [.int .i64 x] rfl (cell_one_new w _ _) (by simp [Value.oneCell']) (by unfold maxLen; omega) (by omega) (by simp; omega)
  rw [show [Value.int .i64 x] = ints [x] from rfl, ← ints_append L [x], ← show (L ++ [x]).length = L.length + 1 by simp] at hown
  refine ⟨v', w', hrun, ⟨hown, ?_⟩, ((Below.refl base w).alloc hb _).grown hgrow (by simp; omega) (fun j e => (h.lt j e).1), fun k hk hne => (hgrow.block k (by simp; omega) (fun e => hne e.symm)).trans (heap_alloc_old w _ hk), fun k hk => ?_⟩
  · rcases hown.2 with ⟨e, hz⟩ | ⟨g', cap, cur, e, _⟩
    · have := (hnil.1 e).1
      simp at this
    · exact ⟨g', cap, e⟩
  · rcases hblk with e | e
    · exact .inl (by rw [← e]; exact hk)
    · rw [e] at hk; simp at hk; exact .inr (by omega)

end Go.Proofs.Ytjlldjekjnlcaaa
