/- eqRow at equal rows. -/
import Derived.Test.YtcbeoihgaccjcaaStrs
import Derived.Test.YtcbeoihgaccjcaaStr
namespace Go.Proofs.Ytcbeoihgaccjcaa
open Go.RowKit

theorem eqRow_yes (u u' : Value) (xs : List ByteArray) (w : World) (hv : StrsAt w u xs) (hv' : StrsAt w u' xs) (hn : xs.length ≤ 1048576) :
    Calls Try.prog 38 #[.agg #[u], .agg #[u']] w fun e w' => e = .returned (.bool true) ∧ Below w.heap.size w w' := by
  have hv0 := hv
  obtain ⟨a, c, rfl, hx0, hx1⟩ := hv0
  have hv1 := hv'
  obtain ⟨a', c', rfl, hx2, hx3⟩ := hv1
  obtain ⟨W, hW⟩ : ∃ W, W = (w.alloc (.cells #[.slice a xs.length c] 54)).alloc (.cells #[.slice a' xs.length c'] 54) := ⟨_, rfl⟩
  have hb : Below w.heap.size w W := by rw [hW]; exact ((Below.refl _ w).alloc (Nat.le_refl _) _).alloc (by simp) _
  have HV := Lib.hid (hv.below hb)
  have HV' := Lib.hid (hv'.below hb)
  have HB := Lib.hid hb
  clear hv hv' hx0 hx1 hx2 hx3 hb
  go_enter Try.func38, Try.ntmps38
  go_wp2_with fail
  rw [← hW]
  refine (eq_yes _ _ xs W HV.out HV'.out hn).mono ?_
  rintro e w1 ⟨rfl, hb1⟩
  have HB1 := Lib.hid (HB.out.trans (hb1.mono HB.out.size))
  clear hb1 HB HV HV' hW
  go_wp2_with fail
  go_ret
  exact ⟨rfl, HB1.out⟩

end Go.Proofs.Ytcbeoihgaccjcaa
