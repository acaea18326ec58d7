/- 'append(l, n)' of one number, told of the list's own block. -/
import Derived.Test.YtnjabdlhgmaeiaaRetI
namespace Go.Proofs.Ytnjabdlhgmaeiaa
open Go.RowKit

theorem appendI (base g c : Nat) (L : List Int) (x : Int) (w : World) (h : Held base w (.slice (some ⟨g, 0, none⟩) L.length c) L) (hb : base ≤ w.heap.size) (hn : L.length ≤ 1048576) :
    ∃ g' c' w', (heldAppend #[26, 26] 26 #[.slice (some ⟨g, 0, none⟩) L.length c, .slice (some ⟨w.heap.size, 0, none⟩) 1 1]).run Try.prog (w.alloc (.cells #[.int .i64 x] 3)) = .ok (.slice (some ⟨g', 0, none⟩) (L.length + 1) c') w' ∧
      Held base w' (.slice (some ⟨g', 0, none⟩) (L ++ [x]).length c') (L ++ [x]) ∧ Below base w w' ∧ (∀ k, k < w.heap.size → k ≠ g → w'.heap[k]? = w.heap[k]?) ∧ (g' = g ∨ w.heap.size ≤ g') := by
  obtain ⟨i0, hi, hz0, hz1, hz2⟩ := info_parts infoIntH
  obtain ⟨h, _⟩ := h
  obtain ⟨v', w', hrun, hown, hgrow, hnil, hob⟩ := run_append_own_at (P := Try.prog) (w := w.alloc (.cells #[.int .i64 x] 3)) base 26 26 3 i0 (.int .i64 0) 1 8 Try.underlying26 hi hz0 hz1 hz2 rfl (by decide)
    _ L.length (ints L) (World.ownsRow.alloc h _) ⟨w.heap.size, 0, none⟩ 1 1 [.int .i64 x] rfl (cell_one_new w _ _) (by simp [Value.oneCell']) (by unfold maxLen; omega) (by omega) (by simp; omega)
  have hown' := hown
  rw [show [Value.int .i64 x] = ints [x] from rfl, ← ints_append L [x], ← show (L ++ [x]).length = L.length + 1 by simp] at hown
  rcases hown'.2 with ⟨e, hz⟩ | ⟨g', cap, cur, e, _⟩
  · have := (hnil.1 e).1
    simp at this
  · subst e
    refine ⟨g', cap, w', hrun, ⟨by simpa using hown, g', cap, by simp⟩, ((Below.refl base w).alloc hb _).grown hgrow (by simp; omega) (fun j e => (h.lt j e).1), fun k hk hne => ?_, ?_⟩
    · rw [hgrow.block k (by simp; omega) (fun e => hne (by simpa [Value.ownBlock] using e))]
      exact heap_alloc_old w _ hk
    · rcases hob with e | e
      · exact .inl (by simpa [Value.ownBlock] using e)
      · right; have := Option.some.inj e; simp at this; omega
theorem Held.at {base g c : Nat} {w : World} {L : List Int} (h : Held base w (.slice (some ⟨g, 0, none⟩) L.length c) L) : base ≤ g ∧ L.length ≤ c ∧ CellRow w g (ints L) := by
  obtain ⟨g1, c1, e, h1, h2, h3⟩ := h.row
  simp at e
  obtain ⟨rfl, rfl⟩ := e
  exact ⟨h1, h2, h3⟩
theorem Held.block {base g c : Nat} {w w' : World} {L : List Int} (h : Held base w (.slice (some ⟨g, 0, none⟩) L.length c) L) (hb : w'.heap[g]? = w.heap[g]?) : Held base w' (.slice (some ⟨g, 0, none⟩) L.length c) L :=
  h.own (fun g1 c1 e _ => by simp at e; obtain ⟨rfl, _⟩ := e; exact hb)

end Go.Proofs.Ytnjabdlhgmaeiaa
