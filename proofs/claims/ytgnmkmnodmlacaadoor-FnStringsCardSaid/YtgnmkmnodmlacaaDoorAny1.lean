/- The draws' any1, by its contract: a short text, and nothing but the cursor moved. -/
import Derived.Test.YtgnmkmnodmlacaaDoorPick
namespace Go.Proofs.YtgnmkmnodmlacaaDoor
open Go.RowKit

/-- A short text. -/
def AnyC (B g : Nat) (a : Option Addr) (len cap : Nat) (m : Nat) (w : World) (e : Ending) (w' : World) : Prop :=
  ∃ x : ByteArray, x.size ≤ 10 ∧ e = .returned (.string x) ∧ Cur B g a len cap (m + 2) w' ∧ But g w w'

theorem any1_any (B g : Nat) (a : Option Addr) (len cap : Nat) (m : Nat) (w : World) (h : Cur B g a len cap m w) (hm : m ≤ 1000000) :
    Calls Tryd.prog 30 #[.pointer (some ⟨g, 0, none⟩)] w (AnyC B g a len cap m w) := by
  have H := Lib.hid h
  clear h
  go_enter Tryd.func30, Tryd.ntmps30
  go_wp2_with fail
  refine (of_lit B g a len cap m [⟨#[]⟩, ⟨#[97]⟩, ⟨#[97, 44, 98]⟩, ⟨#[115, 111, 109, 101, 32, 119, 111, 114, 100, 115]⟩, ⟨#[120, 35, 121]⟩, ⟨#[45, 49, 50]⟩, ⟨#[0, 255]⟩, ⟨#[44, 44]⟩, ⟨#[48]⟩] 9 _ _ rfl rfl _ H.out hm (by decide) (by decide)).mono ?_
  rintro e w1 ⟨x, hx, rfl, hc, hb⟩
  obtain ⟨y, hy, rfl⟩ := List.mem_map.1 hx
  have HX : Hid (y.size ≤ 10) := Lib.hid (by simp only [List.mem_cons, List.not_mem_nil, or_false] at hy; rcases hy with rfl | rfl | rfl | rfl | rfl | rfl | rfl | rfl | rfl <;> decide)
  have H1 := Lib.hid hc
  have HB1 := Lib.hid hb
  clear H hx hy hc hb
  go_wp2_with fail
  go_ret
  exact ⟨_, HX.out, rfl, H1.out, HB1.out⟩

/-- The code: bytes of the world. -/
def Code0 (w : World) (a : Option Addr) (len : Nat) : Prop := CodeAt w.heap.size a len w

theorem Code0.below {w w' : World} {a : Option Addr} {len : Nat} (h : Code0 w a len) (hb : Below w.heap.size w w') : Code0 w' a len := by
  intro k hk
  obtain ⟨x, z, ha, hx, hz, h'⟩ := h k hk
  have hbk := Go.ChangeShapes.block_add x k
  refine ⟨x, z, ha, Nat.lt_of_lt_of_le hx hb.size, ?_, h'⟩
  rw [World.cell?_of_block (w := w) (hb.block _ (by omega))]
  exact hz

theorem cur_new {w : World} {a : Option Addr} {len : Nat} (h : Code0 w a len) (cap : Nat) (t : TypeId) :
    Cur w.heap.size w.heap.size a len cap 0 (w.alloc (.cells #[.slice a len cap, .int .i64 0, .int .u64 0] t)) := by
  have hrow : RowIs (w.alloc (.cells #[.slice a len cap, .int .i64 0, .int .u64 0] t)) w.heap.size t [.slice a len cap, .int .i64 0, .int .u64 0] := heap_alloc_new w _
  have hb : Below w.heap.size w (w.alloc (.cells #[.slice a len cap, .int .i64 0, .int .u64 0] t)) := (Below.refl _ w).alloc (Nat.le_refl _) _
  refine ⟨0, Nat.le_refl _, Nat.le_refl _, hrow.lt, ?_, hrow.cell 0, hrow.cell 1, ⟨0, hrow.cell 2⟩, fun j => hrow.frozen j⟩
  intro k hk
  obtain ⟨x, z, ha, hx, hz, h'⟩ := h k hk
  have hbk := Go.ChangeShapes.block_add x k
  refine ⟨x, z, ha, hx, ?_, h'⟩
  rw [World.cell?_of_block (w := w) (hb.block _ (by omega))]
  exact hz

/-- What a draw moves: nothing that was. -/
theorem But.fresh {w w' : World} {o : Obj} (h : But w.heap.size (w.alloc o) w') : Below w.heap.size w w' := by
  have hb : Below w.heap.size w (w.alloc o) := (Below.refl _ w).alloc (Nat.le_refl _) _
  exact hb.trans (h.below (Nat.le_refl _) hb.size)

end Go.Proofs.YtgnmkmnodmlacaaDoor
