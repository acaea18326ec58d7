/- The draws of two short texts and of a text with a separator, by contracts: sizes alone. -/
import Derived.Test.YtgnmkmnodmlacaaAny1
namespace Go.Proofs.Ytgnmkmnodmlacaa
open Go.RowKit

/-- Two short texts. -/
def TwoC (w : World) (e : Ending) (w' : World) : Prop :=
  ∃ x y : ByteArray, x.size ≤ 10 ∧ y.size ≤ 10 ∧ e = .returned (.tuple #[.string x, .string y]) ∧ Below w.heap.size w w'

/-- The code: bytes of the world. -/
def Code0 (w : World) (a : Option Addr) (len : Nat) : Prop := CodeAt w.heap.size a len w

theorem Code0.below {w w' : World} {a : Option Addr} {len : Nat} (h : Code0 w a len) (hb : Below w.heap.size w w') : Code0 w' a len := by
  intro k hk
  obtain ⟨x, z, ha, hx, hz, h'⟩ := h k hk
  have hbk := Go.ChangeShapes.block_add x k
  refine ⟨x, z, ha, Nat.lt_of_lt_of_le hx hb.size, ?_, h'⟩
  rw [World.cell?_of_block (w := w) (hb.block _ (by omega))]
  exact hz

theorem cur_new {w : World} {a : Option Addr} {len : Nat} (h : Code0 w a len) (cap : Nat) (t : TypeId) :
    Cur w.heap.size w.heap.size a len cap 0 (w.alloc (.cells #[.slice a len cap, .int .i64 0, .int .u64 0] t)) := by
  have hrow : RowIs (w.alloc (.cells #[.slice a len cap, .int .i64 0, .int .u64 0] t)) w.heap.size t [.slice a len cap, .int .i64 0, .int .u64 0] := heap_alloc_new w _
  have hb : Below w.heap.size w (w.alloc (.cells #[.slice a len cap, .int .i64 0, .int .u64 0] t)) := (Below.refl _ w).alloc (Nat.le_refl _) _
  refine ⟨0, Nat.le_refl _, Nat.le_refl _, hrow.lt, ?_, hrow.cell 0, hrow.cell 1, ⟨0, hrow.cell 2⟩, fun j => hrow.frozen j⟩
  intro k hk
  obtain ⟨x, z, ha, hx, hz, h'⟩ := h k hk
  have hbk := Go.ChangeShapes.block_add x k
  refine ⟨x, z, ha, hx, ?_, h'⟩
  rw [World.cell?_of_block (w := w) (hb.block _ (by omega))]
  exact hz

/-- What a draw moves: nothing that was. -/
theorem But.fresh {w w' : World} {o : Obj} (h : But w.heap.size (w.alloc o) w') : Below w.heap.size w w' := by
  have hb : Below w.heap.size w (w.alloc o) := (Below.refl _ w).alloc (Nat.le_refl _) _
  exact hb.trans (h.below (Nat.le_refl _) hb.size)

theorem drawLess_any (a : Option Addr) (len cap : Nat) (w : World) (h : Code0 w a len) :
    Calls Try.prog 14 #[.slice a len cap] w (TwoC w) := by
  have H := Lib.hid h
  clear h
  go_enter Try.func14, Try.ntmps14
  go_wp2_with fail
  refine (any1_any w.heap.size w.heap.size a len cap 0 _ (cur_new H.out cap _) (by omega)).mono ?_
  rintro e w1 ⟨x, hx, rfl, hc, hb⟩
  have H1 := Lib.hid hc
  have HB1 := Lib.hid hb
  clear H hc hb
  go_wp2_with fail
  refine (any1_any w.heap.size w.heap.size a len cap _ _ H1.out (by omega)).mono ?_
  rintro e w2 ⟨y, hy, rfl, hc, hb⟩
  have HB2 := Lib.hid (HB1.out.trans hb).fresh
  clear H1 HB1 hc hb
  go_wp2_with fail
  go_ret2
  exact ⟨x, y, hx, hy, rfl, HB2.out⟩

theorem drawSplit_any (a : Option Addr) (len cap : Nat) (w : World) (h : Code0 w a len) :
    Calls Try.prog 9 #[.slice a len cap] w (TwoC w) := by
  have H := Lib.hid h
  clear h
  go_enter Try.func9, Try.ntmps9
  go_wp2_with fail
  refine (any1_any w.heap.size w.heap.size a len cap 0 _ (cur_new H.out cap _) (by omega)).mono ?_
  rintro e w1 ⟨x, hx, rfl, hc, hb⟩
  have H1 := Lib.hid hc
  have HB1 := Lib.hid hb
  clear H hc hb
  go_wp2_with fail
  refine (of_lit w.heap.size w.heap.size a len cap _ [⟨#[44]⟩, ⟨#[44]⟩, ⟨#[32]⟩, ⟨#[]⟩, ⟨#[44, 44]⟩] 5 _ _ rfl rfl _ H1.out (by omega) (by decide) (by decide)).mono ?_
  rintro e w2 ⟨y, hy, rfl, hc, hb⟩
  obtain ⟨z, hz, rfl⟩ := List.mem_map.1 hy
  have HX : Hid (z.size ≤ 10) := Lib.hid (by simp only [List.mem_cons, List.not_mem_nil, or_false] at hz; rcases hz with rfl | rfl | rfl | rfl | rfl <;> decide)
  have HB2 := Lib.hid (HB1.out.trans hb).fresh
  clear H1 HB1 hc hb hy hz
  go_wp2_with fail
  go_ret2
  exact ⟨x, z, hx, HX.out, rfl, HB2.out⟩

end Go.Proofs.Ytgnmkmnodmlacaa
