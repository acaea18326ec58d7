/- The answer of an invalid call: no list. -/
import Derived.Test.YtagibgphegoagaaRetCE
namespace Go.Proofs.Ytagibgphegoagaa
open Go.RowKit
set_option linter.unusedVariables false

theorem RetCE.nil0 (w w1 : World) (hb : Below w.heap.size w w1) : RetCE ([], false) w (.returned (.tuple #[.slice none 0 0, .bool false])) w1 := .inr ⟨rfl, _, _, rfl, hb⟩
theorem Ret1CE.nil0 (w w1 : World) (hb : Below w.heap.size w w1) : Ret1CE ([], 0, false) w (.returned (.tuple #[.slice none 0 0, .int .i64 0, .bool false])) w1 := .inr ⟨rfl, _, _, rfl, hb⟩
theorem RetIE.nil0 (w w1 : World) (hb : Below w.heap.size w w1) : RetIE ([], false) w (.returned (.tuple #[.slice none 0 0, .bool false])) w1 := .inr ⟨rfl, _, _, rfl, hb⟩

end Go.Proofs.Ytagibgphegoagaa
