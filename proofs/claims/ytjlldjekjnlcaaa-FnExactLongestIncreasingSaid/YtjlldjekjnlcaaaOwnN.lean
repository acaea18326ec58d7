/- A list of the call's own that may be nil. -/
import Derived.Test.YtjlldjekjnlcaaaRetI
namespace Go.Proofs.Ytjlldjekjnlcaaa
open Go.RowKit
set_option linter.unusedVariables false

/-- A list of the call's own that may be nil. -/
def OwnN (base : Nat) (w : World) (v : Value) (L : List Int) : Prop := w.ownsRow base 3 1 v L.length (ints L)
theorem OwnN.parts {base g c : Nat} {w : World} {L : List Int} {n : Nat} (h : w.ownsRow base 3 1 (.slice (some ⟨g, 0, none⟩) n c) L.length (ints L)) : ∃ cur, n = L.length ∧ base ≤ g ∧ w.heap[g]? = some (.cells cur 3 (0, 0)) ∧ L.length ≤ c ∧ c ≤ maxLen ∧ cur.size = c * 1 ∧ cur.toList.take (L.length * 1) = ints L := by
  rcases h.2 with ⟨e, _⟩ | ⟨g1, c1, cur, e, h1, h2, h3, h4, h5, h6⟩
  · simp at e
  · simp at e
    obtain ⟨rfl, rfl, rfl⟩ := e
    exact ⟨cur, rfl, h1, h2, h3, h4, h5, h6⟩
theorem OwnN.prefix {base g c : Nat} {w : World} {L M : List Int} (h : w.ownsRow base 3 1 (.slice (some ⟨g, 0, none⟩) (L ++ M).length c) (L ++ M).length (ints (L ++ M))) : OwnN base w (.slice (some ⟨g, 0, none⟩) L.length c) L := by
  obtain ⟨cur, _, h1, h2, h3, h4, h5, h6⟩ := OwnN.parts h
  refine ⟨by rw [ints_length, Nat.mul_one], .inr ⟨g, c, cur, rfl, h1, h2, by rw [List.length_append] at h3; omega, h4, h5, ?_⟩⟩
  have e : cur.toList.take (L.length * 1) = (cur.toList.take ((L ++ M).length * 1)).take (L.length * 1) := by rw [List.take_take, Nat.min_eq_left (by rw [List.length_append]; omega)]
  rw [e, h6, ints_append, List.take_left' (by rw [ints_length, Nat.mul_one])]
theorem OwnN.row {base g c : Nat} {w : World} {L : List Int} (h : OwnN base w (.slice (some ⟨g, 0, none⟩) L.length c) L) : base ≤ g ∧ L.length ≤ c ∧ CellRow w g (ints L) := CellRow.of_own h
theorem OwnN.block {base g c : Nat} {w w' : World} {L : List Int} (h : OwnN base w (.slice (some ⟨g, 0, none⟩) L.length c) L) (hb : w'.heap[g]? = w.heap[g]?) : OwnN base w' (.slice (some ⟨g, 0, none⟩) L.length c) L := by
  obtain ⟨cur, _, h1, h2, h3, h4, h5, h6⟩ := OwnN.parts h
  exact ⟨h.1, .inr ⟨g, c, cur, rfl, h1, hb.trans h2, h3, h4, h5, h6⟩⟩
/-- Whatever does not touch the list's own block. -/
theorem OwnN.keep {base : Nat} {w w' : World} {v : Value} {L : List Int} (h : OwnN base w v L) (hb : ∀ g, v.ownBlock = some g → w'.heap[g]? = w.heap[g]?) : OwnN base w' v L := by
  refine ⟨h.1, ?_⟩
  rcases h.2 with hn | ⟨g, c, cur, rfl, h1, h2, rest⟩
  · exact .inl hn
  · exact .inr ⟨g, c, cur, rfl, h1, (hb g rfl).trans h2, rest⟩
theorem OwnN.nil (base : Nat) (w : World) : OwnN base w (.slice none 0 0) [] := ⟨rfl, .inl ⟨rfl, rfl⟩⟩

/-- 'append(l, n)' of one number to a list that may be nil. -/
theorem appendN (base : Nat) (v : Value) (L : List Int) (x : Int) (w : World) (h : OwnN base w v L) (hb : base ≤ w.heap.size) (hn : L.length ≤ 1048576) :
    ∃ g' c' w', (heldAppend #[24, 24] 24 #[v, .slice (some ⟨w.heap.size, 0, none⟩) 1 1]).run Try.prog (w.alloc (.cells #[.int .i64 x] 3)) = .ok (.slice (some ⟨g', 0, none⟩) (L.length + 1) c') w' ∧
      OwnN base w' (.slice (some ⟨g', 0, none⟩) (L ++ [x]).length c') (L ++ [x]) ∧ Below base w w' ∧ (∀ k, k < w.heap.size → v.ownBlock ≠ some k → w'.heap[k]? = w.heap[k]?) ∧ (v.ownBlock = some g' ∨ w.heap.size ≤ g') := by
  obtain ⟨i0, hi, hz0, hz1, hz2⟩ := info_parts infoIntH
  obtain ⟨v', w', hrun, hown, hgrow, hnil, hob⟩ := run_append_own_at (P := Try.prog) (w := w.alloc (.cells #[.int .i64 x] 3)) base 24 24 3 i0 (.int .i64 0) 1 8 Try.underlying24 hi hz0 hz1 hz2 rfl (by decide)
    _ L.length (ints L) (World.ownsRow.alloc h _) ⟨w.heap.size, 0, none⟩ 1 1 [.int .i64 x] rfl (cell_one_new w _ _) (by simp [Value.oneCell']) (by unfold maxLen; omega) (by omega) (by simp; omega)
  have hown' := hown
  rw [show [Value.int .i64 x] = ints [x] from rfl, ← ints_append L [x], ← show (L ++ [x]).length = L.length + 1 by simp] at hown
  rcases hown'.2 with ⟨e, hz⟩ | ⟨g', cap, cur, e, _⟩
  · omega
  · subst e
    refine ⟨g', cap, w', hrun, by unfold OwnN; simpa using hown, ((Below.refl base w).alloc hb _).grown hgrow (by simp; omega) (fun j e => (h.lt j e).1), fun k hk hne => ?_, ?_⟩
    · rw [hgrow.block k (by simp; omega) (Ne.symm hne)]
      exact heap_alloc_old w _ hk
    · rcases hob with e | e
      · exact .inl e.symm
      · right; have := Option.some.inj e; simp at this; omega

end Go.Proofs.Ytjlldjekjnlcaaa
