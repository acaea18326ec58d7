/- The draws' cursor (next, pick, one), by contracts: a number in its range, and nothing else moved. -/
import Derived.Test.YtjlldjekjnlcaaaStrB
import Derived.Test.YtjlldjekjnlcaaaFlat
import Derived.Lib.Hide
import Derived.IntWalk
import Derived.Laws.Bits64b
import Derived.Laws.Bits64
import Derived.ChangeSlices
import Derived.Deep.QuietTactic
import Derived.BigQuiet
namespace Go.Proofs.Ytjlldjekjnlcaaa
open Go.RowKit

/-- The code's bytes, below B. -/
def CodeAt (B : Nat) (a : Option Addr) (len : Nat) (w : World) : Prop := ∀ k, k < len → ∃ x z, a = some x ∧ x.block < B ∧ w.cell? (x.add k) = some (.int .u8 z) ∧ 0 ≤ z ∧ z ≤ 255

/-- The cursor's three cells. -/
def CurAt (B g : Nat) (a : Option Addr) (len cap : Nat) (i : Nat) (w : World) : Prop := B ≤ g ∧ g < w.heap.size ∧ CodeAt B a len w ∧ w.cell? ⟨g, 0, none⟩ = some (.slice a len cap) ∧ w.cell? ⟨g, 1, none⟩ = some (.int .i64 i) ∧
  (∃ s : Int, w.cell? ⟨g, 2, none⟩ = some (.int .u64 s)) ∧ ∀ j, w.frozen? ⟨g, j, none⟩ = false

def NextIs (B g : Nat) (a : Option Addr) (len cap : Nat) (i : Nat) (w : World) (e : Ending) (w' : World) : Prop :=
  ∃ r : Int, 0 ≤ r ∧ r ≤ 255 ∧ e = .returned (.int .i64 r) ∧ CurAt B g a len cap (i + 1) w' ∧ But g w w'

/-- What next leaves. -/
def stepped (w : World) (g n i : Nat) (s : Int) : World := (((w.drewN n).setCell ⟨g, 1, none⟩ (.int .i64 ((i : Int) + 1))).setCell ⟨g, 2, none⟩ (.int .u64 s))

theorem stepped_but (w : World) (g n i : Nat) (s : Int) : But g w (stepped w g n i s) := (((But.refl g w).drewN n).setCell 1 _).setCell 2 _

theorem stepped_cur {B g : Nat} {a : Option Addr} {len cap i : Nat} {w : World} (h : CurAt B g a len cap i w) (n : Nat) (s : Int) : CurAt B g a len cap (i + 1) (stepped w g n i s) := by
  obtain ⟨hB, hg, hcode, h0, h1, ⟨s0, h2⟩, hfr⟩ := h
  have hb := stepped_but w g n i s
  have n01 : (⟨g, 1, none⟩ : Addr) ≠ ⟨g, 0, none⟩ := by simp
  have n02 : (⟨g, 2, none⟩ : Addr) ≠ ⟨g, 0, none⟩ := by simp
  have n21 : (⟨g, 2, none⟩ : Addr) ≠ ⟨g, 1, none⟩ := by simp
  have n12 : (⟨g, 1, none⟩ : Addr) ≠ ⟨g, 2, none⟩ := by simp
  refine ⟨hB, Nat.lt_of_lt_of_le hg hb.size, ?_, ?_, ?_, ⟨s, ?_⟩, ?_⟩
  · intro k hk
    obtain ⟨x, z, ha, hx, hz, h'⟩ := hcode k hk
    refine ⟨x, z, ha, hx, ?_, h'⟩
    have hbk := Go.ChangeShapes.block_add x k
    rw [World.cell?_of_block (w := w) (hb.block _ (by omega) (by omega))]
    exact hz
  · unfold stepped
    rw [World.cell?_setCell_other _ _ _ _ n02, World.cell?_setCell_other _ _ _ _ n01]; exact h0
  · unfold stepped
    rw [World.cell?_setCell_other _ _ _ _ n21, World.cell?_setCell_same (w.drewN n) _ _ h1]; rfl
  · unfold stepped
    exact World.cell?_setCell_same _ _ _ (show _ = some (.int .u64 s0) by rw [World.cell?_setCell_other _ _ _ _ n12]; exact h2)
  · intro j
    unfold stepped
    rw [World.frozen?_setCell, World.frozen?_setCell]; exact hfr j

theorem nextIs_of {B g : Nat} {a : Option Addr} {len cap i : Nat} {w : World} (h : CurAt B g a len cap i w) (n n' : Nat) (s r : Int) (h0 : 0 ≤ r) (h1 : r ≤ 255) :
    NextIs B g a len cap i w (.returned (.int .i64 r)) ((stepped w g n i s).drewN n') :=
  ⟨r, h0, h1, rfl, stepped_cur h n s, (stepped_but w g n i s).drewN n'⟩

theorem low8 (X : Int) (hX : 0 ≤ X) (hX' : X < 18446744073709551616) : 0 ≤ wrap64 (bits BinOp.and IntKind.u64 X 255) ∧ wrap64 (bits BinOp.and IntKind.u64 X 255) ≤ 255 := by
  obtain ⟨m, rfl⟩ : ∃ m : Nat, X = (m : Int) := ⟨X.toNat, by omega⟩
  have e : bits BinOp.and IntKind.u64 (m : Int) 255 = ((m &&& 255 : Nat) : Int) := bits_and_u64_nat m 255 (by omega) (by omega)
  have h : m &&& 255 ≤ 255 := Nat.and_le_right
  rw [e]
  unfold wrap64
  omega

theorem next_any (B g : Nat) (a : Option Addr) (len cap : Nat) (i : Nat) (w : World) (h : CurAt B g a len cap i w) (hi : i ≤ 1000000000) :
    Calls Try.prog 77 #[.pointer (some ⟨g, 0, none⟩)] w (NextIs B g a len cap i w) := by
  have HN : Hid (∀ (n n' : Nat) (s r : Int) (h0 : 0 ≤ r) (h1 : r ≤ 255), NextIs B g a len cap i w (.returned (.int .i64 r)) ((stepped w g n i s).drewN n')) := Lib.hid (nextIs_of h)
  obtain ⟨hB, hg, hcode, h0, h1, ⟨s, h2⟩, hfr⟩ := h
  have HC := Lib.hid hcode
  clear hcode
  have hf0 := hfr 0
  have hf1 := hfr 1
  have hf2 := hfr 2
  clear hfr
  by_cases hlt : i < len
  · obtain ⟨x, z, hax, hxb, hz, hz0, hz1⟩ := HC.out i hlt
    subst hax
    clear HC
    go_enter Try.func77, Try.ntmps77
    go_wp2
    go_quiet (fail)
    go_wp2
    go_quiet (fail)
    go_wp2_with fail
    go_region
    go_wp2_with fail
    go_ret
    exact HN.out _ 1 _ _ hz0 hz1
  · clear HC
    go_enter Try.func77, Try.ntmps77
    go_wp2
    go_quiet (fail)
    go_wp2_with fail
    go_region
    go_wp2_with fail
    go_ret
    have hb := low8 (IntKind.u64.wrap (IntKind.u64.wrap (IntKind.u64.wrap (s * 6364136223846793005)) + 907907) / 1099511627776) (by rw [IntKind.wrap_u64]; omega) (by rw [IntKind.wrap_u64]; omega)
    exact HN.out _ 1 _ _ hb.1 hb.2

end Go.Proofs.Ytjlldjekjnlcaaa
