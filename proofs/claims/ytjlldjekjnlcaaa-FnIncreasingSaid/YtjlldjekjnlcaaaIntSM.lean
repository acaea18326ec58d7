/- The laws' small helpers over lists of numbers (toIntS, eqIntS, markIntS, heldIntS), by their contracts. -/
import Derived.Test.YtjlldjekjnlcaaaInts
import Derived.Deep.RegionWith
namespace Go.Proofs.Ytjlldjekjnlcaaa
open Go.RowKit

set_option maxRecDepth 100000 in
theorem markIntS_any (g c : Nat) (l : List Int) (m : Nat) (w : World) (hr : CellRow w g (ints l)) (hn : l.length ≤ 1048576) (hm : m ≤ 100000000) :
    Calls Try.prog 40 #[.slice (some ⟨g, 0, none⟩) l.length c, .int .i64 (m : Int)] w fun e w' => e = .returned (.int .i64 ((m + l.length : Nat) : Int)) ∧ CellRow w' g (ints (imarks m l.length)) ∧ But g w w' := by
  have HR := Lib.hid hr
  clear hr
  go_enter Try.func40, Try.ntmps40
  go_wp2
  go_loopw [1, 5] (fun q i wr => ∃ k : Nat, k ≤ l.length ∧ i = .int .i64 k ∧ q = .int .i64 ((m + k : Nat) : Int) ∧ CellRow wr g (ints (ihalf l m k)) ∧ But g w wr) (fun _ i _ => l.length - (intOf i).toNat)
  case atStart => exact ⟨0, Nat.zero_le _, rfl, rfl, by rw [ihalf_zero]; exact HR.out, But.refl _ _⟩
  case round =>
    obtain ⟨k, hk, rfl, rfl, hr, hb⟩ := hrel
    have HR := Lib.hid hr
    have HB := Lib.hid hb
    clear hr hb
    by_cases hlt : k < l.length
    · obtain ⟨hc1, hf1⟩ := HR.out.2 _ _ (ints_at (ihalf_at (m := m) hlt))
      generalize l[k] = p at *
      go_wp2
      go_roundw
      case rel => exact ⟨k + 1, by omega, by go_num, by go_num, by rw [← ihalf_set hlt, ← ints_set]; exact HR.out.set k _ (by rw [ints_length, ihalf_length l m k (by omega)]; omega), HB.out.setCell k _⟩
      case measure => simp [intOf]; omega
    · obtain rfl : k = l.length := by omega
      go_wp2
      go_ret
      exact ⟨rfl, by rw [← ihalf_all]; exact HR.out, HB.out⟩

end Go.Proofs.Ytjlldjekjnlcaaa
