/- The laws' small helpers over lists of numbers (toIntS, eqIntS, markIntS, heldIntS), by their contracts. -/
import Derived.Test.YtjlldjekjnlcaaaInts
import Derived.Deep.RegionWith
namespace Go.Proofs.Ytjlldjekjnlcaaa
open Go.RowKit

set_option maxRecDepth 100000 in
theorem heldIntS_any (g c n : Nat) (m : Nat) (w : World) (hr : CellRow w g (ints (imarks m n))) (hn : n ≤ 1048576) (hm : m ≤ 100000000) :
    Calls Try.prog 41 #[.slice (some ⟨g, 0, none⟩) n c, .int .i64 (m : Int)] w fun e w' => e = .returned (.int .i64 ((m + n : Nat) : Int)) ∧ Below w.heap.size w w' := by
  have HR := Lib.hid hr
  clear hr
  go_enter Try.func41, Try.ntmps41
  go_wp2
  go_loopw [1, 5] (fun q i wr => ∃ k j : Nat, k ≤ n ∧ i = .int .i64 k ∧ q = .int .i64 ((m + k : Nat) : Int) ∧ wr = w.drewN j) (fun _ i _ => n - (intOf i).toNat)
  case atStart => exact ⟨0, 0, Nat.zero_le _, rfl, rfl, rfl⟩
  case round =>
    obtain ⟨k, j, hk, rfl, rfl, rfl⟩ := hrel
    by_cases hlt : k < n
    · obtain ⟨hc1, _⟩ := HR.out.2 _ _ (ints_at (imarks_at (m := m) hlt))
      go_wp2
      go_roundw
      case rel => exact ⟨k + 1, _, by omega, by go_num, by go_num, rfl⟩
      case measure => simp [intOf]; omega
    · obtain rfl : k = n := by omega
      go_wp2
      go_ret
      exact ⟨rfl, ⟨rfl, rfl, rfl, Nat.le_refl _, fun _ _ => rfl⟩⟩

end Go.Proofs.Ytjlldjekjnlcaaa
