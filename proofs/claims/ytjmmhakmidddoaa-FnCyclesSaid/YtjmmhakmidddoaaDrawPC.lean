/- The draw of PermutationCycles, by its contract. -/
import Derived.Test.YtjmmhakmidddoaaDrawQA
namespace Go.Proofs.Ytjmmhakmidddoaa
open Go.RowKit

set_option maxRecDepth 100000 in
theorem drawCyc_any (a : Option Addr) (len cap : Nat) (w : World) (h : Code0 w a len) :
    Calls Try.prog 18 #[.slice a len cap] w (ListD 66 w) := by
  have H := Lib.hid (drawPerm_any a len cap w h)
  clear h
  go_enter Try.func18, Try.ntmps18
  go_wp2_with fail
  refine (H.out).mono ?_
  rintro e w1 ⟨g, c, L, hL, rfl, hc, hg, hrow, hb⟩
  have HRES : Hid (ListD 66 w (.returned (.slice (some ⟨g, 0, none⟩) L.length c)) w1) := Lib.hid ⟨g, c, L, hL, rfl, hc, hg, hrow, hb⟩
  clear hL hc hg hrow hb
  go_wp2_with fail
  go_ret
  exact HRES.out

end Go.Proofs.Ytjmmhakmidddoaa
