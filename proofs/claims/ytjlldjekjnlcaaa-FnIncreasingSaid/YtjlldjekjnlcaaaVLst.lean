/- vList of the laws: a valid list, by its contract. -/
import Derived.Test.YtjlldjekjnlcaaaDrawSd
import Derived.Test.YtjlldjekjnlcaaaListC
namespace Go.Proofs.Ytjlldjekjnlcaaa
open Go.RowKit P El
set_option linter.unusedVariables false

/-- A valid list in a new row. -/
def OneV (w : World) (e : Ending) (w' : World) : Prop :=
  ∃ (g1 c1 : Nat) (L1 : List Int), OkL L1 ∧ e = .returned (.slice (some ⟨g1, 0, none⟩) L1.length c1) ∧ L1.length ≤ c1 ∧ CellRow w' g1 (ints L1) ∧ Below w.heap.size w w'

set_option maxRecDepth 100000 in
theorem vList_any (a : Option Addr) (len cap : Nat) (w : World) (h : Code0 w a len) :
    Calls Try.prog 29 #[.slice a len cap] w (OneV w) := by
  have HDR := Lib.hid (drawSorted_any a len cap w h)
  clear h
  go_enter Try.func29, Try.ntmps29
  go_wp2_with fail
  refine HDR.out.mono ?_
  rintro e w1 ⟨g, c, L, hl, rfl, hc, hrow, hb⟩
  have HI := Lib.hid (specValidList_any (.slice (some ⟨g, 0, none⟩) L.length c) L w1 (hrow.flat hc) (by omega))
  have HR := Lib.hid hrow
  have HB := Lib.hid hb
  have HC := Lib.hid hc
  clear hrow hb HDR hc
  by_cases hok : OkL L
  · rw [decide_eq_true hok] at HI
    have HOK := Lib.hid hok
    clear hok
    go_wp2_with fail
    refine HI.out.mono ?_
    rintro e w2 ⟨rfl, hb2⟩
    have HRES : Hid (OneV w (.returned (.slice (some ⟨g, 0, none⟩) L.length c)) w2) := Lib.hid ⟨g, c, L, HOK.out, rfl, HC.out, HR.out.below hb2 HR.out.1, HB.out.trans (hb2.mono HB.out.size)⟩
    clear hb2 HI HR HB
    go_wp2_with fail
    go_ret
    exact HRES.out
  · rw [decide_eq_false hok] at HI
    clear hok
    go_wp2_with fail
    refine HI.out.mono ?_
    rintro e w2 ⟨rfl, hb2⟩
    have hbb := HB.out.trans (hb2.mono HB.out.size)
    have HRES : Hid (OneV w (.returned (.slice (some ⟨w2.heap.size, 0, none⟩) 4 4)) (w2.alloc (.cells #[.int .i64 3, .int .i64 1, .int .i64 2, .int .i64 1] 3))) := Lib.hid
      ⟨w2.heap.size, 4, [3, 1, 2, 1], ⟨by decide, by decide⟩, rfl, Nat.le_refl _, CellRow.of_row (heap_alloc_new w2 _), hbb.alloc hbb.size _⟩
    clear hb2 HI HR HB hbb
    go_wp2_with fail
    go_ret
    exact HRES.out

end Go.Proofs.Ytjlldjekjnlcaaa
