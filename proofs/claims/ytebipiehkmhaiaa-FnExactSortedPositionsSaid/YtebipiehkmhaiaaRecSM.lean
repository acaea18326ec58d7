/- The laws' small helpers over lists of records (szRecordS, toRecordS, eqRecordS, markRecordS, heldRecordS), by their contracts. -/
import Derived.Test.YtebipiehkmhaiaaRecs
import Derived.Deep.RegionWith
namespace Go.Proofs.Ytebipiehkmhaiaa
open Go.RowKit

set_option maxRecDepth 100000 in
theorem markRecS_any (g c : Nat) (l : List (Int × Int)) (m : Nat) (w : World) (hr : CellRow w g (recs l)) (hn : l.length ≤ 1048576) (hm : m ≤ 100000000) :
    Calls Try.prog 43 #[.slice (some ⟨g, 0, none⟩) l.length c, .int .i64 (m : Int)] w fun e w' => e = .returned (.int .i64 ((m + 2 * l.length : Nat) : Int)) ∧ CellRow w' g (recs (rmarks m l.length)) ∧ But g w w' := by
  have HR := Lib.hid hr
  clear hr
  go_enter Try.func43, Try.ntmps43
  go_wp2
  go_loopw [1, 5] (fun q i wr => ∃ k : Nat, k ≤ l.length ∧ i = .int .i64 k ∧ q = .int .i64 ((m + 2 * k : Nat) : Int) ∧ CellRow wr g (recs (rhalf l m k)) ∧ But g w wr) (fun _ i _ => l.length - (intOf i).toNat)
  case atStart => exact ⟨0, Nat.zero_le _, rfl, rfl, by rw [rhalf_zero]; exact HR.out, But.refl _ _⟩
  case round =>
    obtain ⟨k, hk, rfl, rfl, hr, hb⟩ := hrel
    have HR := Lib.hid hr
    have HB := Lib.hid hb
    clear hr hb
    by_cases hlt : k < l.length
    · have hz := recs_at (rhalf_at (m := m) hlt)
      obtain ⟨hc1, hf1⟩ := HR.out.2 _ _ hz.1
      obtain ⟨hc2, hf2⟩ := HR.out.2 _ _ hz.2
      clear hz
      generalize l[k] = p at *
      go_wp2_with fail
      go_roundw
      case rel => exact ⟨k + 1, by omega, by go_num, by go_num, by rw [← rhalf_set hlt, ← recs_set _ _ _ (by rw [rhalf_length l m k (by omega)]; exact hlt)]; exact (HR.out.set (k * 2) _ (by rw [recs_length, rhalf_length l m k (by omega)]; omega)).set (k * 2 + 1) _ (by rw [List.length_set, recs_length, rhalf_length l m k (by omega)]; omega), (HB.out.setCell (k * 2) _).setCell (k * 2 + 1) _⟩
      case measure => simp [intOf]; omega
    · obtain rfl : k = l.length := by omega
      go_wp2
      go_ret
      exact ⟨rfl, by rw [← rhalf_all]; exact HR.out, HB.out⟩

end Go.Proofs.Ytebipiehkmhaiaa
