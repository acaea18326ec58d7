/- The two checksums of the program, by their contracts: each hands back the plain function. -/
import Derived.Test.YtgnmkmnodmlacaaDoorRows
import Derived.Test.YtgnmkmnodmlacaaDoorSum
import Derived.WalkKit
import Derived.Lib.Hide
namespace Go.Proofs.YtgnmkmnodmlacaaDoor
open Go.RowKit

theorem ret_int2 {k : IntKind} {a b : Int} (h : a = b) : Ending.returned (.int k a) = .returned (.int k b) := by rw [h]

theorem ret_tup {k : IntKind} {a b : Int} {v : Value} (h : a = b) : Ending.returned (.tuple #[.int k a, v]) = .returned (.tuple #[.int k b, v]) := by rw [h]

set_option maxHeartbeats 400000 in
theorem l1Sum_any (s : ByteArray) (w : World) (hs : s.size ≤ maxLen) :
    Calls Tryd.prog 43 #[.string s] w fun e w' => e = .returned (.int .i64 (ck s.data.toList)) ∧ w = w' := by
  unfold maxLen at hs
  go_enter Tryd.func43, Tryd.ntmps43
  go_wp2
  go_loop [3, 4] (fun n i => ∃ k : Nat, k ≤ s.size ∧ i = .int .i64 k ∧ n = .int .i64 (ck (s.data.toList.take k))) (fun _ i => s.size - (intOf i).toNat)
  case atStart => exact ⟨0, Nat.zero_le _, rfl, rfl⟩
  case round =>
    obtain ⟨k, hk, rfl, rfl⟩ := hrel
    have hb := ck_bd (s.data.toList.take k)
    obtain ⟨hb1, hb2⟩ := hb
    by_cases hlt : k < s.size
    · have HS : Hid (ck (s.data.toList.take (k + 1)) = (41 * ck (s.data.toList.take k) + (s[k].toNat : Int) + 1) % 999979) := Go.Lib.hid (by rw [take_snoc_s s k hlt]; exact ck_snoc _ _)
      generalize hg : ck (s.data.toList.take k) = g at *
      clear hg
      have hc1 : (0 : Int) ≤ (s[k].toNat : Int) := by omega
      have hc2 : (s[k].toNat : Int) < 256 := by have := s[k].toNat_lt; omega
      go_wp2
      go_round
      case rel => exact ⟨k + 1, by omega, by go_num, by rw [HS.out]⟩
      case measure => simp [intOf]; omega
    · go_wp2
      go_ret
      exact ⟨ret_int2 (by rw [List.take_of_length_le (by simp; omega)]), rfl⟩

set_option maxHeartbeats 400000 in
theorem implSum_yes (s : ByteArray) (w : World) (hs : s.size ≤ 4000) :
    Calls Tryd.prog 31 #[.string s] w fun e w' => e = .returned (.tuple #[.int .i64 (ck s.data.toList), .bool true]) ∧ w = w' := by
  go_enter Tryd.func31, Tryd.ntmps31
  go_wp2
  go_loop [4, 11] (fun n i => ∃ k : Nat, k ≤ s.size ∧ i = .int .i64 k ∧ n = .int .i64 (ck (s.data.toList.take k))) (fun _ i => s.size - (intOf i).toNat)
  case atStart => exact ⟨0, Nat.zero_le _, rfl, rfl⟩
  case round =>
    obtain ⟨k, hk, rfl, rfl⟩ := hrel
    have hb := ck_bd (s.data.toList.take k)
    obtain ⟨hb1, hb2⟩ := hb
    by_cases hlt : k < s.size
    · have HS : Hid (ck (s.data.toList.take (k + 1)) = (41 * ck (s.data.toList.take k) + (s[k].toNat : Int) + 1) % 999979) := Go.Lib.hid (by rw [take_snoc_s s k hlt]; exact ck_snoc _ _)
      generalize hg : ck (s.data.toList.take k) = g at *
      clear hg
      have hc1 : (0 : Int) ≤ (s[k].toNat : Int) := by omega
      have hc2 : (s[k].toNat : Int) < 256 := by have := s[k].toNat_lt; omega
      go_wp2
      go_round
      case rel => exact ⟨k + 1, by omega, by go_num, by rw [HS.out]⟩
      case measure => simp [intOf]; omega
    · go_wp2
      go_ret2
      exact ⟨ret_tup (by rw [List.take_of_length_le (by simp; omega)]), rfl⟩

theorem implSum_no (s : ByteArray) (w : World) (hs : 4000 < s.size) (hm : s.size ≤ maxLen) :
    Calls Tryd.prog 31 #[.string s] w fun e w' => e = .returned (.tuple #[.int .i64 0, .bool false]) ∧ w = w' := by
  unfold maxLen at hm
  go_enter Tryd.func31, Tryd.ntmps31
  go_wp2
  go_ret2
  exact ⟨rfl, rfl⟩

end Go.Proofs.YtgnmkmnodmlacaaDoor
