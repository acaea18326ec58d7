/- The laws' small helpers over lists of KeySpec, by their contracts. (flatgen.py) -/
import Derived.Test.YtcbeoihgaccjcaaDoorKeySpecs
import Derived.Deep.RegionWith
namespace Go.Proofs.YtcbeoihgaccjcaaDoor
open Go.RowKit

set_option maxRecDepth 100000 in
set_option maxHeartbeats 1000000 in
theorem markKeySpecS_any (g c : Nat) (l : List (Int × Bool × Bool × Bool)) (m : Nat) (w : World) (hr : CellRow w g (keys l)) (hn : l.length ≤ 1048576) (hm : m ≤ 100000000) :
    Calls Tryd.prog 16 #[.slice (some ⟨g, 0, none⟩) l.length c, .int .i64 (m : Int)] w fun e w' => e = .returned (.int .i64 ((m + 4 * l.length : Nat) : Int)) ∧ CellRow w' g (keys (keysM m l.length)) ∧ But g w w' := by
  have HR := Lib.hid hr
  clear hr
  go_enter Tryd.func16, Tryd.ntmps16
  go_wp2
  go_loopw [1, 5] (fun q i wr => ∃ k : Nat, k ≤ l.length ∧ i = .int .i64 k ∧ q = .int .i64 ((m + 4 * k : Nat) : Int) ∧ CellRow wr g (keys (keysH l m k)) ∧ But g w wr) (fun _ i _ => l.length - (intOf i).toNat)
  case atStart => exact ⟨0, Nat.zero_le _, rfl, rfl, by rw [keysH_zero]; exact HR.out, But.refl _ _⟩
  case round =>
    obtain ⟨k, hk, rfl, rfl, hr, hb⟩ := hrel
    have HR := Lib.hid hr
    have HB := Lib.hid hb
    clear hr hb
    by_cases hlt : k < l.length
    · have hz := keys_at (keysH_at (m := m) hlt)
      obtain ⟨hc0, hf0⟩ := HR.out.2 _ _ hz.1
      obtain ⟨hc1, hf1⟩ := HR.out.2 _ _ hz.2.1
      obtain ⟨hc2, hf2⟩ := HR.out.2 _ _ hz.2.2.1
      obtain ⟨hc3, hf3⟩ := HR.out.2 _ _ hz.2.2.2
      clear hz
      generalize l[k] = p at *
      go_wp2_with fail
      go_roundw
      case rel => exact ⟨k + 1, by omega, by go_num, by go_num, by rw [← keysH_set hlt, ← keys_set _ _ _ (by rw [keysH_length l m k (by omega)]; exact hlt)]; exact ((((HR.out.set (k * 4) _ (by rw [keys_length, keysH_length l m k (by omega)]; omega)).set (k * 4 + 1) _ (by rw [List.length_set, keys_length, keysH_length l m k (by omega)]; omega)).set (k * 4 + 2) _ (by rw [List.length_set, List.length_set, keys_length, keysH_length l m k (by omega)]; omega)).set (k * 4 + 3) _ (by rw [List.length_set, List.length_set, List.length_set, keys_length, keysH_length l m k (by omega)]; omega)), ((((HB.out.setCell (k * 4) _).setCell (k * 4 + 1) _).setCell (k * 4 + 2) _).setCell (k * 4 + 3) _)⟩
      case measure => simp [intOf]; omega
    · obtain rfl : k = l.length := by omega
      go_wp2
      go_ret
      exact ⟨rfl, by rw [← keysH_all]; exact HR.out, HB.out⟩

end Go.Proofs.YtcbeoihgaccjcaaDoor
