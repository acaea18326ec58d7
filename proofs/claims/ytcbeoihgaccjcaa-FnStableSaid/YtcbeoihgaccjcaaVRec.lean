/- The laws' vRecords at equal lists, and the draw of FnStable. -/
import Derived.Test.YtcbeoihgaccjcaaDrawAR
namespace Go.Proofs.Ytcbeoihgaccjcaa
open Go.RowKit

/-- A list of at most 66 records in a new row. -/
def DrawRC (w : World) (e : Ending) (w' : World) : Prop :=
  ∃ (v : Value) (l : List (Int × Int)), l.length ≤ 66 ∧ (∀ p ∈ l, (-1000000 ≤ p.1 ∧ p.1 ≤ 1000000) ∧ (-1000000 ≤ p.2 ∧ p.2 ≤ 1000000)) ∧ e = .returned v ∧ w'.ownsRow w.heap.size 32 2 v l.length (recs l) ∧ Below w.heap.size w w' ∧ v ≠ .slice none 0 0

theorem drawValidRecs_any (a : Option Addr) (len cap : Nat) (w : World) (h : Code0 w a len) :
    Calls Try.prog 53 #[.slice a len cap] w (DrawRC w) := by
  have H := Lib.hid h
  clear h
  go_enter Try.func53, Try.ntmps53
  go_wp2_with fail
  refine (anyRecords_any w.heap.size w.heap.size a len cap 0 _ (cur_new H.out cap _) (by omega)).mono ?_
  rintro e w1 ⟨v, l, hl, hall, rfl, hown, hc, hb, hnn⟩
  have HQ : Hid (DrawRC w (.returned v) w1) := Lib.hid ⟨v, l, hl, hall, rfl, own_base2 hown (by simp), hb.fresh, hnn⟩
  clear hall hown hc hb hnn H
  go_wp2_with fail
  go_ret
  exact HQ.out

theorem drawStable_any (a : Option Addr) (len cap : Nat) (w : World) (h : Code0 w a len) :
    Calls Try.prog 13 #[.slice a len cap] w (DrawRC w) := by
  have H := Lib.hid h
  clear h
  go_enter Try.func13, Try.ntmps13
  go_wp2_with fail
  refine (drawValidRecs_any a len cap w H.out).mono ?_
  rintro e w1 ⟨v, l, hl, hall, rfl, hown, hb, hnn⟩
  have HQ : Hid (DrawRC w (.returned v) w1) := Lib.hid ⟨v, l, hl, hall, rfl, hown, hb, hnn⟩
  clear hall hown hb hnn H
  go_wp2_with fail
  go_ret
  exact HQ.out

set_option maxRecDepth 100000 in
theorem vRecords_yes (v v' : Value) (l : List (Int × Int)) (w : World) (hv : FlatAt w v l.length (recs l)) (hv' : FlatAt w v' l.length (recs l)) (hn : l.length ≤ 1048576) :
    Calls Try.prog 16 #[v, v'] w fun e w' => e = .returned (.bool true) ∧ Below w.heap.size w w' := by
  obtain ⟨a, c, rfl, _, h⟩ := hv
  obtain ⟨a', c', rfl, _, h'⟩ := hv'
  have H := Lib.hid h
  have H' := Lib.hid h'
  clear h h'
  go_enter Try.func16, Try.ntmps16
  go_wp2
  go_loopw [5] (fun i wr => ∃ k m : Nat, k ≤ l.length ∧ i = .int .i64 k ∧ wr = w.drewN m) (fun i _ => l.length - (intOf i).toNat)
  case atStart => exact ⟨0, 0, Nat.zero_le _, rfl, rfl⟩
  case round =>
    obtain ⟨k, m, hk, rfl, rfl⟩ := hrel
    by_cases hlt : k < l.length
    · obtain ⟨p, hp⟩ : ∃ p, l[k]? = some p := ⟨_, List.getElem?_eq_getElem hlt⟩
      obtain ⟨b, o, rfl, hbb, hc1, hc2⟩ := recs_el H.out hp
      obtain ⟨b', o', rfl, hbb', hc1', hc2'⟩ := recs_el H'.out hp
      clear hp
      go_wp2
      go_quiet (fail)
      go_wp2
      go_roundw
      case rel => exact ⟨k + 1, _, by omega, by go_num, rfl⟩
      case measure => simp [intOf]; omega
    · obtain rfl : k = l.length := by omega
      go_wp2
      go_ret
      exact ⟨rfl, ⟨rfl, rfl, rfl, Nat.le_refl _, fun _ _ => rfl⟩⟩

end Go.Proofs.Ytcbeoihgaccjcaa
