/- The draw DrawNaturalRuns, by its contract. -/
import Derived.Test.YtnjabdlhgmaeiaaDrawVR
namespace Go.Proofs.Ytnjabdlhgmaeiaa
open Go.RowKit

theorem drawNr_any (a : Option Addr) (len cap : Nat) (w : World) (h : Code0 w a len) :
    Calls Try.prog 31 #[.slice a len cap] w (OneR w) := by
  have H := Lib.hid h
  clear h
  go_enter Try.func31, Try.ntmps31
  go_wp2_with fail
  refine (drawValidRecs_any a len cap w H.out).mono ?_
  intro e w1 hd
  obtain ⟨g1, c1, L, hl, rfl, hc, hr, hb⟩ := OneR.of hd
  have HQ : Hid (OneR w (.returned (.slice (some ⟨g1, 0, none⟩) L.length c1)) w1) := Lib.hid ⟨g1, c1, L, hl, rfl, hc, hr, hb⟩
  clear hd hl hc hr hb H
  go_wp2_with fail
  go_ret
  exact HQ.out

end Go.Proofs.Ytnjabdlhgmaeiaa
