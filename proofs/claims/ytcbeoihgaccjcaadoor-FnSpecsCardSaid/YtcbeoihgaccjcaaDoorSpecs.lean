/- The model's check of key specifications (l2Specs), by its contract. -/
import Derived.Test.YtcbeoihgaccjcaaDoorKeySpecs
import Derived.Test.YtcbeoihgaccjcaaDoorIn
namespace Go.Proofs.YtcbeoihgaccjcaaDoor
open Go.RowKit

/-- A valid key specification. -/
def OkS (l : List (Int × Bool × Bool × Bool)) : Prop := (1 ≤ l.length ∧ l.length ≤ 4) ∧ ∀ p ∈ l, 0 ≤ p.1 ∧ p.1 ≤ 5
instance (l : List (Int × Bool × Bool × Bool)) : Decidable (OkS l) := by unfold OkS; exact inferInstance

set_option maxRecDepth 100000 in
set_option maxHeartbeats 1000000 in
theorem l2Specs_any (v : Value) (l : List (Int × Bool × Bool × Bool)) (w : World) (hv : FlatAt w v l.length (keys l)) (hn : l.length ≤ 1048576) :
    Calls Tryd.prog 22 #[v] w fun e w' => e = .returned (.bool (decide (OkS l))) ∧ Below w.heap.size w w' := by
  obtain ⟨a, c, rfl, _, h⟩ := hv
  have H := Lib.hid h
  clear h
  go_enter Tryd.func22, Tryd.ntmps22
  go_wp2_with fail
  go_loopw [3] (fun i wr => ∃ k : Nat, k ≤ l.length ∧ i = .int .i64 k ∧ (∀ p ∈ l.take k, 0 ≤ p.1 ∧ p.1 ≤ 5) ∧ Below w.heap.size w wr) (fun i _ => l.length - (intOf i).toNat)
  case atStart => exact ⟨0, Nat.zero_le _, rfl, by simp, Below.refl _ _⟩
  case round =>
    obtain ⟨k, hk, rfl, hall, hb⟩ := hrel
    have HB := Lib.hid hb
    have HALL := Lib.hid hall
    clear hb hall
    by_cases hlt : k < l.length
    · obtain ⟨p, hp⟩ : ∃ p, l[k]? = some p := ⟨_, List.getElem?_eq_getElem hlt⟩
      obtain ⟨b, o, rfl, hbb, hc0, hc1, hc2, hc3⟩ := keys_el H.out hp
      have hw0 : wr.cell? ⟨b, o + k * 4, none⟩ = some (.int .i64 p.1) := (HB.out.cell (p := ⟨b, o + k * 4, none⟩) hbb).trans hc0
      have HP := Lib.hid hp
      clear hc0 hc1 hc2 hc3 hp
      by_cases h1 : 0 ≤ p.1 ∧ p.1 ≤ 5
      · have HI1 := Lib.hid (fun W => l1In_yes p.1 0 5 W h1.1 h1.2)
        go_wp2_with fail
        refine (HI1.out _).mono ?_
        rintro e w1 ⟨rfl, rfl⟩
        go_wp2_with fail
        go_roundw
        case rel =>
          refine ⟨k + 1, by omega, by go_num, ?_, HB.out⟩
          intro q hq
          rw [List.take_add_one, HP.out] at hq
          rcases List.mem_append.1 hq with h | h
          · exact HALL.out q h
          · simp at h; subst h; exact h1
        case measure => simp [intOf]; omega
      · have HI1 := Lib.hid (fun W => l1In_no p.1 0 5 W (by omega))
        have HN : Hid (decide (OkS l) = false) := Lib.hid (decide_eq_false fun h => h1 (h.2 p (List.mem_of_getElem? HP.out)))
        clear h1
        go_wp2_with fail
        refine (HI1.out _).mono ?_
        rintro e w1 ⟨rfl, rfl⟩
        go_wp2_with fail
        go_ret
        exact ⟨by rw [HN.out]; rfl, HB.out⟩
    · obtain rfl : k = l.length := by omega
      rw [List.take_length] at HALL
      have HN : Hid (decide (OkS l) = (decide ((1 : Int) ≤ l.length) && decide ((l.length : Int) ≤ 4))) := Lib.hid (by
        rw [← Bool.decide_and]
        by_cases h : 1 ≤ l.length ∧ l.length ≤ 4
        · rw [decide_eq_true (show OkS l from ⟨h, HALL.out⟩), decide_eq_true (by omega)]
        · rw [decide_eq_false (fun h' : OkS l => h h'.1), decide_eq_false (by omega)])
      have HI := Lib.hid (fun W => l1In_any (l.length : Int) 1 4 W)
      go_wp2_with fail
      refine (HI.out _).mono ?_
      rintro e w1 ⟨rfl, rfl⟩
      go_wp2_with fail
      go_ret
      exact ⟨by rw [HN.out]; rfl, HB.out⟩

end Go.Proofs.YtcbeoihgaccjcaaDoor
