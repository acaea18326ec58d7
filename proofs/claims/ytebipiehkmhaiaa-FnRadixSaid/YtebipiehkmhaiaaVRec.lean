/- The draw of StableSort, by its contract. -/
import Derived.Test.YtebipiehkmhaiaaDrawVR
import Derived.Test.YtebipiehkmhaiaaVRecs
namespace Go.Proofs.Ytebipiehkmhaiaa
open Go.RowKit

theorem drawStable_any (a : Option Addr) (len cap : Nat) (w : World) (h : Code0 w a len) :
    Calls Try.prog 70 #[.slice a len cap] w (DrawRC w) := by
  have H := Lib.hid h
  clear h
  go_enter Try.func70, Try.ntmps70
  go_wp2_with fail
  refine (drawValidRecs_any a len cap w H.out).mono ?_
  rintro e w1 ⟨v, l, hl, hall, rfl, hown, hb, hnn⟩
  have HQ : Hid (DrawRC w (.returned v) w1) := Lib.hid ⟨v, l, hl, hall, rfl, hown, hb, hnn⟩
  clear hall hown hb hnn H
  go_wp2_with fail
  go_ret
  exact HQ.out

end Go.Proofs.Ytebipiehkmhaiaa
