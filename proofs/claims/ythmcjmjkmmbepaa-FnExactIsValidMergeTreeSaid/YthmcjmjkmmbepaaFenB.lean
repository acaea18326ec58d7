/- Boxes: one, two, three new ones. -/
import Derived.Test.YthmcjmjkmmbepaaIntS
import Derived.Test.YthmcjmjkmmbepaaIntSE
import Derived.RangeFuncBox
namespace Go.Proofs.Ythmcjmjkmmbepaa
open Go.RowKit

/-- A box, two, three: new ones. -/
theorem box1 (w : World) (t0 : TypeId) (v0 : Value) : ∃ W, W = w.alloc (.cells #[v0] t0) ∧ Boxed W w.heap.size t0 v0 ∧ W.heap.size = w.heap.size + 1 ∧ Below w.heap.size w W :=
  ⟨_, rfl, Boxed.new w _ _, by simp, (Below.refl _ _).alloc (Nat.le_refl _) _⟩
theorem box2 (w : World) (t0 t1 : TypeId) (v0 v1 : Value) : ∃ W, W = (w.alloc (.cells #[v0] t0)).alloc (.cells #[v1] t1) ∧ Boxed W w.heap.size t0 v0 ∧ Boxed W (w.heap.size + 1) t1 v1 ∧ W.heap.size = w.heap.size + 2 ∧ Below w.heap.size w W := by
  obtain ⟨W, hW, h0, hz, hb⟩ := box1 w t0 v0
  rw [← hW]
  refine ⟨_, rfl, h0.alloc _, ?_, by simp [hz], hb.alloc (by omega) _⟩
  have := Boxed.new W t1 v1
  rwa [hz] at this
theorem box3 (w : World) (t0 t1 t2 : TypeId) (v0 v1 v2 : Value) : ∃ W, W = ((w.alloc (.cells #[v0] t0)).alloc (.cells #[v1] t1)).alloc (.cells #[v2] t2) ∧ Boxed W w.heap.size t0 v0 ∧ Boxed W (w.heap.size + 1) t1 v1 ∧ Boxed W (w.heap.size + 1 + 1) t2 v2 ∧ W.heap.size = w.heap.size + 3 ∧ Below w.heap.size w W := by
  obtain ⟨W, hW, h0, h1, hz, hb⟩ := box2 w t0 t1 v0 v1
  rw [← hW]
  refine ⟨_, rfl, h0.alloc _, h1.alloc _, ?_, by simp [hz], hb.alloc (by omega) _⟩
  have := Boxed.new W t2 v2
  rwa [hz] at this
theorem boxed_below {W W' : World} {B n : Nat} {t : TypeId} {v : Value} (h : Boxed W B t v) (hb : Below n W W') (hn : B < n) : Boxed W' B t v := (hb.block B hn).trans h

end Go.Proofs.Ythmcjmjkmmbepaa
