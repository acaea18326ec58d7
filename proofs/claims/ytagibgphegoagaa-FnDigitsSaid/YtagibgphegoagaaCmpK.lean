/- The program's comparison of records by their keys. -/
import Derived.Test.YtagibgphegoagaaRecs
import Derived.Lib.Hide
import Derived.Shelf.SlSortCmp.KitK
import Derived.LoopTactic
import Derived.WalkKit
namespace Go.Proofs.Ytagibgphegoagaa
open Go.RowKit Go.Sort Go.Lib

theorem compareInt_any (x y : Int) (W : World) : Calls Try.prog 133 #[.int .i64 x, .int .i64 y] W fun e w' => e = .returned (.int .i64 (compareInt x y)) ∧ w' = W := by
  by_cases h1 : x < y
  · have hd : Hid (compareInt x y = -1) := Lib.hid (by unfold compareInt; rw [if_pos h1])
    go_enter Try.func133, Try.ntmps133
    go_wp2
    go_ret
    exact ⟨by rw [hd.out]; rfl, rfl⟩
  · by_cases h2 : y < x
    · have hd : Hid (compareInt x y = 1) := Lib.hid (by unfold compareInt; rw [if_neg h1, if_pos h2])
      go_enter Try.func133, Try.ntmps133
      go_wp2
      go_ret
      exact ⟨by rw [hd.out]; rfl, rfl⟩
    · have hd : Hid (compareInt x y = 0) := Lib.hid (by unfold compareInt; rw [if_neg h1, if_neg h2])
      go_enter Try.func133, Try.ntmps133
      go_wp2
      go_ret
      exact ⟨by rw [hd.out]; rfl, rfl⟩

theorem compareKeys_any (x y : Int × Int) (W : World) : Calls Try.prog 88 #[.agg #[.int .i64 x.1, .int .i64 x.2], .agg #[.int .i64 y.1, .int .i64 y.2]] W fun e w' =>
    e = .returned (.int .i64 (compareInt x.1 y.1)) ∧ ∃ q os', w' = grow (W.drewN q) os' := by
  have HC := Lib.hid (fun W' => compareInt_any x.1 y.1 W')
  generalize compareInt x.1 y.1 = r at HC ⊢
  go_enter Try.func88, Try.ntmps88
  go_wp2_with fail
  refine (HC.out _).mono ?_
  rintro e w' ⟨rfl, rfl⟩
  go_wp2_with fail
  go_ret
  exact ⟨rfl, 0, _, by rw [alloc_eq_grow, alloc_eq_grow, grow_grow]; rfl⟩

end Go.Proofs.Ytagibgphegoagaa
