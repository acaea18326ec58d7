/- The model's IsValidRow, by its contract. -/
import Derived.Test.YtcbeoihgaccjcaaRowOk
namespace Go.Proofs.Ytcbeoihgaccjcaa
open Go.RowKit

theorem specValidRow_any (u : Value) (xs : List ByteArray) (w : World) (hv : StrsAt w u xs) (hn : xs.length ≤ 1048576) (hx : ∀ (j : Nat) x, xs[j]? = some x → x.size ≤ 1048576) :
    Calls Try.prog 35 #[.agg #[u]] w fun e w' => e = .returned (.bool (decide (OkRow xs))) ∧ Below w.heap.size w w' := by
  have HC := Lib.hid (fun W (h : StrsAt W u xs) => l2Row_any u xs W h hn hx)
  have hv0 := hv
  obtain ⟨a, c, rfl, hx0, hx1⟩ := hv0
  have hb0 : Below w.heap.size w (w.alloc (.cells #[.slice a xs.length c] 54)) := (Below.refl _ w).alloc (Nat.le_refl _) _
  have HV := Lib.hid (hv.below hb0)
  have HB0 := Lib.hid hb0
  clear hv hx hx0 hx1 hb0
  go_enter Try.func35, Try.ntmps35
  go_wp2_with fail
  refine (HC.out _ HV.out).mono ?_
  rintro e w1 ⟨rfl, hb⟩
  have HB := Lib.hid (HB0.out.trans (hb.mono HB0.out.size))
  clear hb
  go_wp2_with fail
  go_ret
  exact ⟨rfl, HB.out⟩

end Go.Proofs.Ytcbeoihgaccjcaa
