/- eqMergeTree by its contract. -/
import Derived.Test.YthmcjmjkmmbepaaIntSSE
import Derived.Test.YthmcjmjkmmbepaaFenB
namespace Go.Proofs.Ythmcjmjkmmbepaa
open Go.RowKit
set_option linter.unusedVariables false

theorem rowsAt_below {w w' : World} {v : Value} {ls : List (List Value)} (h : RowsAt w v ls) (hb : Below w.heap.size w w') : RowsAt w' v ls := h.below hb

set_option maxRecDepth 100000 in
theorem eqMergeTree_yes (v v' : Value) (M : List (List Int)) (w : World) (hv : RowsAt w v (M.map ints)) (hv' : RowsAt w v' (M.map ints)) (hn : M.length ≤ 1048576) (hx : ∀ (j : Nat) x, M[j]? = some x → x.length ≤ 1048576) :
    Calls Try.prog 27 #[.agg #[v], .agg #[v']] w fun e w' => e = .returned (.bool true) ∧ Below w.heap.size w w' := by
  obtain ⟨W, hW, h0, h1, hz, hb⟩ := box2 w 50 50 v v'
  have HE := Lib.hid (eqIntSS_yes v v' M W (rowsAt_below hv hb) (rowsAt_below hv' hb) hn hx)
  have HB := Lib.hid hb
  have hc0 := h0.cell
  have hc1 := h1.cell
  clear hv hv' hb h0 h1
  go_enter Try.func27, Try.ntmps27
  go_wp2_with fail
  rw [← hW]
  refine HE.out.mono ?_
  rintro e w1 ⟨rfl, hb1⟩
  have HB1 := Lib.hid (HB.out.trans (hb1.mono (by omega)))
  clear hb1
  go_wp2_with fail
  go_ret
  exact ⟨rfl, HB1.out⟩

end Go.Proofs.Ythmcjmjkmmbepaa
