/- The program's function of a key's digit, by its contract. -/
import Derived.Test.YtebipiehkmhaiaaIDig
import Derived.Test.YtebipiehkmhaiaaRadA
import Derived.BigRegion
import Derived.BigQuiet
import Derived.Deep.QuietTactic
import Derived.Deep.RegionWith
import Derived.Shelf.Abstract
namespace Go.Proofs.Ytebipiehkmhaiaa
open Go.RowKit Rx P
set_option linter.unusedVariables false

set_option maxRecDepth 100000 in
set_option maxHeartbeats 2000000 in
theorem digitFn_any (x : Int) (b p g1 g2 : Nat) (W : World) (c1 : W.cell? ⟨g1, 0, none⟩ = some (.int .i64 (b : Int))) (c2 : W.cell? ⟨g2, 0, none⟩ = some (.int .i64 (p : Int))) (h1 : -100000 ≤ x) (h2 : x ≤ 100000) (hb : 2 ≤ b) (hb2 : b ≤ 256) (hp : p ≤ 17) :
    Calls Try.prog 127 #[.int .i64 x, .pointer (some ⟨g1, 0, none⟩), .pointer (some ⟨g2, 0, none⟩)] W fun e w' => e = .returned (.int .i64 (dgI b p x : Nat)) ∧ Below W.heap.size W w' := by
  have HS := Lib.hid (fun W => shifted_any x W h1 h2)
  have HD := Lib.hid (fun W => digit_any (sk x) b p W hb hb2 hp (sk_le h2))
  rw [← sk_eq h1] at HD
  have HE : Hid (dg b p (sk x) = dgI b p x) := Lib.hid rfl
  rw [HE.out] at HD
  have HBL : Hid (∀ n, Below W.heap.size W (W.drewN n)) := Lib.hid (fun n => ⟨rfl, rfl, rfl, Nat.le_refl _, fun _ _ => rfl⟩)
  clear h1 h2 hb hb2 hp HE
  generalize dgI b p x = r at *
  go_enter Try.func127, Try.ntmps127
  go_wp2_with fail
  go_quiet (first | (go_at_call 77; exact Calls.quiet_of_same (HS.out _)) | (go_at_call 84; exact Calls.quiet_of_same (HD.out _)))
  go_wp2_with fail
  go_ret
  exact ⟨rfl, HBL.out _⟩

theorem digitAt_any (b p : Int) (w : World) :
    Calls Try.prog 74 #[.int .i64 b, .int .i64 p] w fun e w' => e = .returned (.func (.func 127) #[] #[.pointer (some ⟨w.heap.size, 0, none⟩), .pointer (some ⟨w.heap.size + 1, 0, none⟩)]) ∧
      w' = (w.alloc (.cells #[.int .i64 b] 3)).alloc (.cells #[.int .i64 p] 3) := by
  go_enter Try.func74, Try.ntmps74
  go_wp2_with fail
  go_ret
  exact ⟨rfl, rfl⟩

/-- The two boxed numbers, and what lies behind them. -/
theorem digit_boxes (b p : Int) (w : World) : Below w.heap.size w ((w.alloc (.cells #[.int .i64 b] 3)).alloc (.cells #[.int .i64 p] 3)) ∧
    ∀ W, Below ((w.alloc (.cells #[.int .i64 b] 3)).alloc (.cells #[.int .i64 p] 3)).heap.size ((w.alloc (.cells #[.int .i64 b] 3)).alloc (.cells #[.int .i64 p] 3)) W →
      W.cell? ⟨w.heap.size, 0, none⟩ = some (.int .i64 b) ∧ W.cell? ⟨w.heap.size + 1, 0, none⟩ = some (.int .i64 p) := by
  have hs : ((w.alloc (.cells #[.int .i64 b] 3)).alloc (.cells #[.int .i64 p] 3)).heap.size = w.heap.size + 2 := by simp
  refine ⟨((Below.refl _ _).alloc (Nat.le_refl _) _).alloc (by simp) _, fun W hW => ⟨?_, ?_⟩⟩
  · rw [hW.cell (p := ⟨w.heap.size, 0, none⟩) (by rw [hs]; show w.heap.size < w.heap.size + 2; omega)]
    simp
  · rw [hW.cell (p := ⟨w.heap.size + 1, 0, none⟩) (by rw [hs]; show w.heap.size + 1 < w.heap.size + 2; omega)]
    simp

theorem enters_digit : ∀ args w, (callFunc 127 args).run Try.prog w = .ok (.enter 127 args) w := enters_of Try.func127 (by kernel_rfl) rfl

end Go.Proofs.Ytebipiehkmhaiaa
