/- What FnNaturalRuns asks of the runs. -/
import Derived.Test.YtnjabdlhgmaeiaaIRun
namespace Go.Proofs.Ytnjabdlhgmaeiaa
open Go.RowKit Ru
set_option linter.unusedVariables false

theorem run_same {l : List (Int × Int)} {i : Nat} (h : i < l.length) {k : Nat} (h1 : i + 1 ≤ k) (h2 : k < i + rcnt l i) : dn l k = dn l (i + 1) := by
  obtain ⟨hp, hl, he⟩ := rcnt_pos h
  have h3 : i + 1 < l.length := by omega
  by_cases hk : k = i + 1
  · rw [hk]
  · have hs := ext_spec l (dn l (i + 1)) _ (i + 2) (Nat.le_refl _)
    rw [he, rend_two h3] at h2
    exact hs.2.2.1 k (by omega) h2
theorem run_max {l : List (Int × Int)} {i : Nat} (h : i < l.length) (h2 : 2 ≤ rcnt l i) (h3 : i + rcnt l i < l.length) : dn l (i + rcnt l i) ≠ dn l (i + 1) := by
  obtain ⟨hp, hl, he⟩ := rcnt_pos h
  have h4 : i + 1 < l.length := by omega
  have hs := ext_spec l (dn l (i + 1)) _ (i + 2) (Nat.le_refl _)
  rw [he, rend_two h4] at h3 ⊢
  exact hs.2.2.2 h3

/-- The law's lists and its run. -/
structure NrQ (l U : List (Int × Int)) (gl cl gq gw s a cn : Nat) (W : World) : Prop where
  rl : RecAt W gl 0 cl l
  q : CellRow W gq (recs U)
  w : CellRow W gw (recs U)
  r : CellRow W s [.int .i64 (a : Int), .int .i64 (cn : Int)]
theorem NrQ.drewN {l U : List (Int × Int)} {gl cl gq gw s a cn : Nat} {W : World} (h : NrQ l U gl cl gq gw s a cn W) (n : Nat) : NrQ l U gl cl gq gw s a cn (W.drewN n) :=
  ⟨h.rl.below ⟨rfl, rfl, rfl, Nat.le_refl _, fun _ _ => rfl⟩, h.q.same rfl (Nat.le_refl _), h.w.same rfl (Nat.le_refl _), h.r.same rfl (Nat.le_refl _)⟩
theorem NrQ.c0 {l U : List (Int × Int)} {gl cl gq gw s a cn : Nat} {W : World} (h : NrQ l U gl cl gq gw s a cn W) : W.cell? ⟨s, 0, none⟩ = some (.int .i64 (a : Int)) ∧ W.cell? ⟨s, 1, none⟩ = some (.int .i64 (cn : Int)) := ⟨(h.r.2 0 _ rfl).1, (h.r.2 1 _ rfl).1⟩
theorem NrQ.key {l U : List (Int × Int)} {gl cl gq gw s a cn : Nat} {W : World} (h : NrQ l U gl cl gq gw s a cn W) {j : Nat} (hj : j < l.length) : W.cell? ⟨gl, j * 2, none⟩ = some (.int .i64 (l.getD j (0, 0)).1) := by
  have := (h.rl.2 j hj).2.1
  rw [Nat.zero_add] at this; exact this
theorem NrQ.of {l U : List (Int × Int)} {gl cl gq gw i a cn : Nat} {W : World} (h1 : CellRow W gl (recs l)) (hc : l.length ≤ cl) (h2 : CellRow W gq (recs U)) (h3 : CellRow W gw (recs U)) : NrQ l U gl cl gq gw W.heap.size a cn (W.alloc (.cells #[.int .i64 (a : Int), .int .i64 (cn : Int)] 48)) :=
  ⟨(RecAt.of_flat (h1.flat hc)).below ((Below.refl _ _).alloc (Nat.le_refl _) _), h2.same (heap_alloc_old W _ h2.1) (by simp), h3.same (heap_alloc_old W _ h3.1) (by simp), CellRow.of_row (t := 48) (heap_alloc_new W _)⟩
theorem NrQ.run {l U : List (Int × Int)} {gl cl gq gw s a cn i : Nat} {W : World} (h : NrQ l U gl cl gq gw s a cn W) (hu : U[i]? = some ((a : Int), (cn : Int))) :
    (W.cell? ⟨gq, i * 2, none⟩ = some (.int .i64 (a : Int)) ∧ W.cell? ⟨gq, i * 2 + 1, none⟩ = some (.int .i64 (cn : Int))) ∧ W.cell? ⟨gw, i * 2, none⟩ = some (.int .i64 (a : Int)) ∧ W.cell? ⟨gw, i * 2 + 1, none⟩ = some (.int .i64 (cn : Int)) := by
  obtain ⟨u0, u1⟩ := recs_at hu
  exact ⟨⟨(h.q.2 _ _ u0).1, (h.q.2 _ _ u1).1⟩, (h.w.2 _ _ u0).1, (h.w.2 _ _ u1).1⟩

end Go.Proofs.Ytnjabdlhgmaeiaa
