/- The model's check of lists of numbers (l2List), by its contract. -/
import Derived.Test.YthmcjmjkmmbepaaInts
import Derived.Test.YthmcjmjkmmbepaaIn
namespace Go.Proofs.Ythmcjmjkmmbepaa
open Go.RowKit

/-- A valid integer list. -/
def OkL (l : List Int) : Prop := l.length ≤ 64 ∧ ∀ p ∈ l, -100000 ≤ p ∧ p ≤ 100000
instance (l : List Int) : Decidable (OkL l) := by unfold OkL; exact inferInstance

set_option maxRecDepth 100000 in
theorem l2List_any (v : Value) (l : List Int) (w : World) (hv : FlatAt w v l.length (ints l)) (hn : l.length ≤ 1048576) :
    Calls Try.prog 65 #[v] w fun e w' => e = .returned (.bool (decide (OkL l))) ∧ Below w.heap.size w w' := by
  obtain ⟨a, c, rfl, _, h⟩ := hv
  have H := Lib.hid h
  clear h
  go_enter Try.func65, Try.ntmps65
  go_wp2_with fail
  go_loopw [3] (fun i wr => ∃ k : Nat, k ≤ l.length ∧ k ≤ 65 ∧ i = .int .i64 k ∧ (∀ p ∈ l.take k, -100000 ≤ p ∧ p ≤ 100000) ∧ Below w.heap.size w wr) (fun i _ => l.length - (intOf i).toNat)
  case atStart => exact ⟨0, Nat.zero_le _, by omega, rfl, by simp, Below.refl _ _⟩
  case round =>
    obtain ⟨k, hk, hk65, rfl, hall, hb⟩ := hrel
    have HB := Lib.hid hb
    have HALL := Lib.hid hall
    clear hb hall
    by_cases hlt : k < l.length
    · by_cases h64 : k ≤ 64
      · obtain ⟨p, hp⟩ : ∃ p, l[k]? = some p := ⟨_, List.getElem?_eq_getElem hlt⟩
        obtain ⟨b, o, rfl, hbb, hc1⟩ := H.out _ _ (ints_at hp)
        have hw1 : wr.cell? ⟨b, o + k, none⟩ = some (.int .i64 p) := (HB.out.cell (p := ⟨b, o + k, none⟩) hbb).trans hc1
        have HP := Lib.hid hp
        clear hc1 hp
        by_cases h1 : -100000 ≤ p ∧ p ≤ 100000
        · have HI1 := Lib.hid (fun W => l1In_yes p (-100000) 100000 W h1.1 h1.2)
          go_wp2_with fail
          refine (HI1.out _).mono ?_
          rintro e w1 ⟨rfl, rfl⟩
          go_wp2_with fail
          go_roundw
          case rel =>
            refine ⟨k + 1, by omega, by omega, by go_num, ?_, HB.out⟩
            intro q hq
            rw [List.take_add_one, HP.out] at hq
            rcases List.mem_append.1 hq with h | h
            · exact HALL.out q h
            · simp at h; subst h; exact h1
          case measure => simp [intOf]; omega
        · have HI1 := Lib.hid (fun W => l1In_no p (-100000) 100000 W (by omega))
          have HN : Hid (decide (OkL l) = false) := Lib.hid (decide_eq_false fun h => h1 (h.2 p (List.mem_of_getElem? HP.out)))
          clear h1
          go_wp2_with fail
          refine (HI1.out _).mono ?_
          rintro e w1 ⟨rfl, rfl⟩
          go_wp2_with fail
          go_ret
          exact ⟨by rw [HN.out]; rfl, HB.out⟩
      · have HN : Hid (decide (OkL l) = false) := Lib.hid (decide_eq_false fun h => by have := h.1; omega)
        have hq : decide ((l.length : Int) ≤ 64) = false := decide_eq_false (by omega)
        go_wp2_with fail
        go_ret
        exact ⟨by rw [HN.out]; first | rfl | (rw [← hq]; rfl), HB.out⟩
    · obtain rfl : k = l.length := by omega
      rw [List.take_length] at HALL
      have HN : Hid (decide (OkL l) = decide ((l.length : Int) ≤ 64)) := Lib.hid (by
        by_cases h : l.length ≤ 64
        · rw [decide_eq_true (show OkL l from ⟨h, HALL.out⟩), decide_eq_true (by omega)]
        · rw [decide_eq_false (fun h' : OkL l => h h'.1), decide_eq_false (by omega)])
      go_wp2_with fail
      go_ret
      exact ⟨by rw [HN.out]; rfl, HB.out⟩

end Go.Proofs.Ythmcjmjkmmbepaa
