/- slices.Chunk at lists of numbers, by its contract. -/
import Derived.Test.YthmcjmjkmmbepaaFlat
import Derived.WalkKit
namespace Go.Proofs.Ythmcjmjkmmbepaa
open Go.RowKit

theorem chunk_any (a : Option Addr) (len c : Nat) (d : Int) (w : World) (hd : ¬ d < 1) :
    Calls Try.prog 95 #[.slice a len c, .int .i64 d] w fun e w' => e = .returned (.func (.func 115) #[] #[.pointer (some ⟨w.heap.size, 0, none⟩), .pointer (some ⟨w.heap.size + 1, 0, none⟩)]) ∧ w' = (w.alloc (.cells #[.slice a len c] 34)).alloc (.cells #[.int .i64 d] 3) := by
  have hdd : decide (d < 1) = false := decide_eq_false hd
  go_enter Try.func95, Try.ntmps95
  go_wp2_with fail
  go_ret
  exact ⟨rfl, rfl⟩

end Go.Proofs.Ythmcjmjkmmbepaa
