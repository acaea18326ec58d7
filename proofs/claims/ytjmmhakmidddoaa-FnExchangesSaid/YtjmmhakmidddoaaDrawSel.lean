/- The draw of SelectionSort, by its contract. -/
import Derived.Test.YtjmmhakmidddoaaDrawSd
namespace Go.Proofs.Ytjmmhakmidddoaa
open Go.RowKit

theorem drawSelection_any (a : Option Addr) (len cap : Nat) (w : World) (h : Code0 w a len) :
    Calls Try.prog 44 #[.slice a len cap] w (OneH w) := by
  have HD := Lib.hid (drawSorted_any a len cap w h)
  clear h
  go_enter Try.func44, Try.ntmps44
  go_wp2_with fail
  refine (HD.out).mono ?_
  rintro e w1 ⟨g1, c1, L1, hl, rfl, hc, hf, hb⟩
  have HRES : Hid (OneH w (.returned (.slice (some ⟨g1, 0, none⟩) L1.length c1)) w1) := Lib.hid ⟨g1, c1, L1, hl, rfl, hc, hf, hb⟩
  clear hl hc hf hb HD
  go_wp2_with fail
  go_ret
  exact HRES.out

end Go.Proofs.Ytjmmhakmidddoaa
