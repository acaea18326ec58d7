/- The code that a law is drawn from, and a new cursor over it. -/
import Derived.Test.YtjlldjekjnlcaaaPick
namespace Go.Proofs.Ytjlldjekjnlcaaa
open Go.RowKit

/-- The code: bytes of the world. -/
def Code0 (w : World) (a : Option Addr) (len : Nat) : Prop := CodeAt w.heap.size a len w

theorem Code0.below {w w' : World} {a : Option Addr} {len : Nat} (h : Code0 w a len) (hb : Below w.heap.size w w') : Code0 w' a len := by
  intro k hk
  obtain ⟨x, z, ha, hx, hz, h'⟩ := h k hk
  have hbk := Go.ChangeShapes.block_add x k
  refine ⟨x, z, ha, Nat.lt_of_lt_of_le hx hb.size, ?_, h'⟩
  rw [World.cell?_of_block (w := w) (hb.block _ (by omega))]
  exact hz

theorem cur_new {w : World} {a : Option Addr} {len : Nat} (h : Code0 w a len) (cap : Nat) (t : TypeId) :
    Cur w.heap.size w.heap.size a len cap 0 (w.alloc (.cells #[.slice a len cap, .int .i64 0, .int .u64 0] t)) := by
  have hrow : RowIs (w.alloc (.cells #[.slice a len cap, .int .i64 0, .int .u64 0] t)) w.heap.size t [.slice a len cap, .int .i64 0, .int .u64 0] := heap_alloc_new w _
  have hb : Below w.heap.size w (w.alloc (.cells #[.slice a len cap, .int .i64 0, .int .u64 0] t)) := (Below.refl _ w).alloc (Nat.le_refl _) _
  refine ⟨0, Nat.le_refl _, Nat.le_refl _, hrow.lt, ?_, hrow.cell 0, hrow.cell 1, ⟨0, hrow.cell 2⟩, fun j => hrow.frozen j⟩
  intro k hk
  obtain ⟨x, z, ha, hx, hz, h'⟩ := h k hk
  have hbk := Go.ChangeShapes.block_add x k
  refine ⟨x, z, ha, hx, ?_, h'⟩
  rw [World.cell?_of_block (w := w) (hb.block _ (by omega))]
  exact hz

/-- What a draw moves: nothing that was. -/
theorem But.fresh {w w' : World} {o : Obj} (h : But w.heap.size (w.alloc o) w') : Below w.heap.size w w' := by
  have hb : Below w.heap.size w (w.alloc o) := (Below.refl _ w).alloc (Nat.le_refl _) _
  exact hb.trans (h.below (Nat.le_refl _) hb.size)

end Go.Proofs.Ytjlldjekjnlcaaa
