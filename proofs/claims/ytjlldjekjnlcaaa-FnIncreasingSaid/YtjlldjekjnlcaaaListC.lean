/- The model's IsValidList, by its contract. -/
import Derived.Test.YtjlldjekjnlcaaaList
namespace Go.Proofs.Ytjlldjekjnlcaaa
open Go.RowKit

theorem specValidList_any (v : Value) (l : List Int) (w : World) (hv : FlatAt w v l.length (ints l)) (hn : l.length ≤ 1048576) :
    Calls Try.prog 65 #[v] w fun e w' => e = .returned (.bool (decide (OkL l))) ∧ Below w.heap.size w w' := by
  have HV := Lib.hid hv
  clear hv
  go_enter Try.func65, Try.ntmps65
  go_wp2_with fail
  refine (l2List_any _ l w HV.out hn).mono ?_
  rintro e w1 ⟨rfl, hb⟩
  have HB := Lib.hid hb
  clear hb
  go_wp2_with fail
  go_ret
  exact ⟨rfl, HB.out⟩

end Go.Proofs.Ytjlldjekjnlcaaa
