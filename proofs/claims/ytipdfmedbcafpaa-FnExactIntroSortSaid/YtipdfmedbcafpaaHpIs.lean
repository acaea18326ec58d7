/- The program's checks of a heap, by contracts. -/
import Derived.Test.YtipdfmedbcafpaaHpUp
import Derived.Test.YtipdfmedbcafpaaIList
namespace Go.Proofs.Ytipdfmedbcafpaa
open Go.RowKit P El Hp
set_option linter.unusedVariables false

theorem arity_any (d : Int) (w : World) :
    Calls Try.prog 154 #[.int .i64 d] w fun e w' => e = .returned (.bool (decide (OkD d))) ∧ w' = w := by
  by_cases h2 : 2 ≤ d
  · have HE : Hid (decide (OkD d) = decide (d ≤ 8)) := Lib.hid (decide_eq_decide.2 ⟨fun h => h.2, fun h => ⟨h2, h⟩⟩)
    have hd2 : decide (2 ≤ d) = true := decide_eq_true h2
    by_cases h8 : d ≤ 8
    · have hd8 : decide (d ≤ 8) = true := decide_eq_true h8
      go_enter Try.func154, Try.ntmps154
      go_wp2
      go_ret
      exact ⟨by rw [HE.out, hd8]; rfl, rfl⟩
    · have hd8 : decide (d ≤ 8) = false := decide_eq_false h8
      go_enter Try.func154, Try.ntmps154
      go_wp2
      go_ret
      exact ⟨by rw [HE.out, hd8]; rfl, rfl⟩
  · have HE : Hid (decide (OkD d) = false) := Lib.hid (decide_eq_false fun h => h2 h.1)
    have hd2 : decide (2 ≤ d) = false := decide_eq_false h2
    go_enter Try.func154, Try.ntmps154
    go_wp2
    go_ret
    exact ⟨by rw [HE.out]; rfl, rfl⟩


end Go.Proofs.Ytipdfmedbcafpaa
