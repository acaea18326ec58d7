/- The sorting permutation, and whether there is one. Nothing of the program. -/
import Derived.Test.YtagibgphegoagaaStabI
import Derived.Test.YtagibgphegoagaaList
namespace Go.Proofs.Ytagibgphegoagaa
open Go.RowKit P

/-- The sorting permutation, and whether there is one. -/
def sortF (l : List Int) : List Int × Bool := if OkL l then (sortTo l l.length, true) else ([], false)
theorem sortF_yes {l : List Int} (h : OkL l) : sortF l = (sortTo l l.length, true) := if_pos h
theorem sortF_no {l : List Int} (h : ¬ OkL l) : sortF l = ([], false) := if_neg h
theorem sortF_len (l : List Int) : (sortF l).1.length ≤ 1048576 := by
  unfold sortF; split
  · rename_i h; simp only [sortTo_length]; have := h.1; omega
  · simp

end Go.Proofs.Ytagibgphegoagaa
