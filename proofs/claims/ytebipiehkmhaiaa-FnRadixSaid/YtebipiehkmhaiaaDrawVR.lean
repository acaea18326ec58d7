/- The draw of IsValidRecords, by its contract. -/
import Derived.Test.YtebipiehkmhaiaaDrawAR
namespace Go.Proofs.Ytebipiehkmhaiaa
open Go.RowKit

/-- A list of at most 66 records in a new row. -/
def DrawRC (w : World) (e : Ending) (w' : World) : Prop :=
  ∃ (v : Value) (l : List (Int × Int)), l.length ≤ 66 ∧ (∀ p ∈ l, (-1000000 ≤ p.1 ∧ p.1 ≤ 1000000) ∧ (-1000000 ≤ p.2 ∧ p.2 ≤ 1000000)) ∧ e = .returned v ∧ w'.ownsRow w.heap.size 45 2 v l.length (recs l) ∧ Below w.heap.size w w' ∧ v ≠ .slice none 0 0

theorem drawValidRecs_any (a : Option Addr) (len cap : Nat) (w : World) (h : Code0 w a len) :
    Calls Try.prog 56 #[.slice a len cap] w (DrawRC w) := by
  have H := Lib.hid h
  clear h
  go_enter Try.func56, Try.ntmps56
  go_wp2_with fail
  refine (anyRecords_any w.heap.size w.heap.size a len cap 0 _ (cur_new H.out cap _) (by omega)).mono ?_
  rintro e w1 ⟨v, l, hl, hall, rfl, hown, hc, hb, hnn⟩
  have HQ : Hid (DrawRC w (.returned v) w1) := Lib.hid ⟨v, l, hl, hall, rfl, own_base2 hown (by simp), hb.fresh, hnn⟩
  clear hall hown hc hb hnn H
  go_wp2_with fail
  go_ret
  exact HQ.out

/-- A short list of records, not nil. -/
def OneR (w : World) (e : Ending) (w' : World) : Prop :=
  ∃ (g1 c1 : Nat) (L1 : List (Int × Int)), L1.length ≤ 66 ∧ e = .returned (.slice (some ⟨g1, 0, none⟩) L1.length c1) ∧ L1.length ≤ c1 ∧ CellRow w' g1 (recs L1) ∧ Below w.heap.size w w'
theorem OneR.of {w w' : World} {e : Ending} (h : DrawRC w e w') : OneR w e w' := by
  obtain ⟨v, l, hl, _, rfl, hown, hb, hnn⟩ := h
  rcases hown.2 with ⟨e, _⟩ | ⟨g, cap, cur, rfl, _⟩
  · exact absurd e hnn
  · obtain ⟨_, h2, h3⟩ := CellRow.of_own hown
    exact ⟨g, cap, l, hl, rfl, h2, h3, hb⟩

end Go.Proofs.Ytebipiehkmhaiaa
