/- The draw of OrderDefect, by its contract. -/
import Derived.Test.YtipdfmedbcafpaaDrawRel
import Derived.Test.YtipdfmedbcafpaaCode
import Derived.Deep.CutRange
import Derived.BigGuardPart
namespace Go.Proofs.Ytipdfmedbcafpaa
open Go.RowKit
set_option linter.unusedVariables false

/-- A small table of the draw's. -/
def RelD (w : World) (e : Ending) (w' : World) : Prop :=
  ∃ (a : Option Addr) (c : Nat) (M : List (List Bool)), e = .returned (.slice a M.length c) ∧ RowsAt w' (.slice a M.length c) (M.map bools) ∧ M.length ≤ 5 ∧ (∀ x ∈ M, x.length ≤ 6) ∧ Below w.heap.size w w'

set_option maxRecDepth 100000 in
theorem drawOrd_any (a : Option Addr) (len cap : Nat) (w : World) (h : Code0 w a len) :
    Calls Try.prog 17 #[.slice a len cap] w (RelD w) := by
  have H := Lib.hid (cur_new h cap 70)
  clear h
  go_enter Try.func17, Try.ntmps17
  go_wp2_with fail
  refine (relation_any w.heap.size w.heap.size a len cap 0 _ H.out (by omega)).mono ?_
  rintro e w1 ⟨v, M, rfl, hr, h5, h6, hb⟩
  have HRES : Hid (RelD w (.returned v) w1) := Lib.hid (by
    have hr' := hr
    obtain ⟨a', c', rfl, _, _⟩ := hr'
    rw [List.length_map] at hr ⊢
    exact ⟨a', c', M, rfl, hr, h5, h6, hb.fresh⟩)
  clear hr h5 h6 hb
  go_wp2_with fail
  go_ret
  exact HRES.out

end Go.Proofs.Ytipdfmedbcafpaa
