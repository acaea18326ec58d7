/- The laws' small helpers over lists of KeySpec, by their contracts. (flatgen.py) -/
import Derived.Test.YtcbeoihgaccjcaaDoorKeySpecs
import Derived.Deep.RegionWith
namespace Go.Proofs.YtcbeoihgaccjcaaDoor
open Go.RowKit

set_option maxRecDepth 100000 in
set_option maxHeartbeats 1000000 in
theorem heldKeySpecS_any (g c n : Nat) (m : Nat) (w : World) (hr : CellRow w g (keys (keysM m n))) (hn : n ≤ 1048576) (hm : m ≤ 100000000) :
    Calls Tryd.prog 17 #[.slice (some ⟨g, 0, none⟩) n c, .int .i64 (m : Int)] w fun e w' => e = .returned (.int .i64 ((m + 4 * n : Nat) : Int)) ∧ Below w.heap.size w w' := by
  have HR := Lib.hid hr
  clear hr
  go_enter Tryd.func17, Tryd.ntmps17
  go_wp2
  go_loopw [1, 5] (fun q i wr => ∃ k j : Nat, k ≤ n ∧ i = .int .i64 k ∧ q = .int .i64 ((m + 4 * k : Nat) : Int) ∧ wr = w.drewN j) (fun _ i _ => n - (intOf i).toNat)
  case atStart => exact ⟨0, 0, Nat.zero_le _, rfl, rfl, rfl⟩
  case round =>
    obtain ⟨k, j, hk, rfl, rfl, rfl⟩ := hrel
    by_cases hlt : k < n
    · have hz := keys_at (keysM_at (m := m) hlt)
      obtain ⟨hc0, _⟩ := HR.out.2 _ _ hz.1
      obtain ⟨hc1, _⟩ := HR.out.2 _ _ hz.2.1
      obtain ⟨hc2, _⟩ := HR.out.2 _ _ hz.2.2.1
      obtain ⟨hc3, _⟩ := HR.out.2 _ _ hz.2.2.2
      have hq1 : (((m : Int) + 4 * (k : Int) + 1) % 3 == 0) = mkb ((m : Int) + 4 * (k : Int) + 1) := by unfold mkb; rw [show ((m : Int) + 4 * (k : Int) + 1) = (m : Int) + 4 * (k : Int) + 1 by omega]
      have hq2 : (((m : Int) + 4 * (k : Int) + 1 + 1) % 3 == 0) = mkb ((m : Int) + 4 * (k : Int) + 2) := by unfold mkb; rw [show ((m : Int) + 4 * (k : Int) + 1 + 1) = (m : Int) + 4 * (k : Int) + 2 by omega]
      have hq3 : (((m : Int) + 4 * (k : Int) + 1 + 1 + 1) % 3 == 0) = mkb ((m : Int) + 4 * (k : Int) + 3) := by unfold mkb; rw [show ((m : Int) + 4 * (k : Int) + 1 + 1 + 1) = (m : Int) + 4 * (k : Int) + 3 by omega]
      clear hz
      go_wp2_with fail
      go_roundw
      case rel => exact ⟨k + 1, _, by omega, by go_num, by go_num, rfl⟩
      case measure => simp [intOf]; omega
    · obtain rfl : k = n := by omega
      go_wp2
      go_ret
      exact ⟨rfl, ⟨rfl, rfl, rfl, Nat.le_refl _, fun _ _ => rfl⟩⟩

end Go.Proofs.YtcbeoihgaccjcaaDoor
