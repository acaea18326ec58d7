/- The model's RunMerges, by its contract. -/
import Derived.Test.YtnjabdlhgmaeiaaSPlan
import Derived.Test.YtnjabdlhgmaeiaaRet12
import Derived.Test.YtnjabdlhgmaeiaaIn
namespace Go.Proofs.Ytnjabdlhgmaeiaa
open Go.RowKit P Sk
set_option linter.unusedVariables false

set_option maxRecDepth 100000 in
set_option maxHeartbeats 8000000 in
theorem specRm_any (b o c : Nat) (l : List Int) (w : World) (hv : FlatAt w (.slice (some ⟨b, o, none⟩) l.length c) l.length (ints l)) (hn : l.length ≤ 1048576) :
    Calls Try.prog 36 #[.slice (some ⟨b, o, none⟩) l.length c] w (RetI1 (rmAll l) w) := by
  have HCELL : Hid (∀ j, j < l.length → b < w.heap.size ∧ w.cell? ⟨b, o + j, none⟩ = some (.int .i64 (l.getD j 0))) := Lib.hid (fun j hj => by
    obtain ⟨a0, c0, e0, _, h⟩ := hv
    simp at e0
    obtain ⟨rfl, rfl⟩ := e0
    obtain ⟨b', o', e', h1, h2⟩ := h _ _ (ints_at (at_getD hj))
    simp at e'
    obtain ⟨rfl, rfl⟩ := e'
    exact ⟨h1, h2⟩)
  have HV := Lib.hid hv
  clear hv
  go_enter Try.func36, Try.ntmps36
  go_wp2_with fail
  go_loopw [5] (fun iv wr => ∃ k : Nat, k ≤ l.length ∧ iv = .int .i64 (k : Int) ∧ (∀ p ∈ l.take k, 1 ≤ p ∧ p ≤ 100000) ∧ Below w.heap.size w wr) (fun iv _ => l.length - (intOf iv).toNat)
  case atStart => exact ⟨0, Nat.zero_le _, rfl, by simp, Below.refl _ _⟩
  case round =>
    obtain ⟨k, hk, rfl, hall, hb⟩ := hrel
    have HB := Lib.hid hb
    have HALL := Lib.hid hall
    clear hb hall
    by_cases hlt : k < l.length
    · obtain ⟨p, hp⟩ : ∃ p, l[k]? = some p := ⟨_, List.getElem?_eq_getElem hlt⟩
      have hpd : l.getD k 0 = p := P.getD_at hp
      obtain ⟨hbb, hc0⟩ := HCELL.out k hlt
      have hw1 : wr.cell? ⟨b, o + k, none⟩ = some (.int .i64 p) := by rw [← hpd]; exact (HB.out.cell (p := ⟨b, o + k, none⟩) hbb).trans hc0
      have HP := Lib.hid hp
      have hkz : (k : Int) < (l.length : Int) := by omega
      clear hc0 hp hpd
      by_cases h1 : 1 ≤ p ∧ p ≤ 100000
      · have HI1 := Lib.hid (fun W => l1In_yes p 1 100000 W h1.1 h1.2)
        go_wp2_with fail
        refine (HI1.out _).mono ?_
        rintro e w1 ⟨rfl, rfl⟩
        go_wp2_with fail
        go_roundw
        case rel =>
          refine ⟨k + 1, by omega, by go_num, ?_, HB.out⟩
          intro q hq
          rw [List.take_add_one, HP.out] at hq
          rcases List.mem_append.1 hq with h | h
          · exact HALL.out q h
          · simp at h; subst h; exact h1
        case measure => simp [intOf]; omega
      · have HI1 := Lib.hid (fun W => l1In_no p 1 100000 W (by omega))
        have HN : Hid (rmAll l = ([], 0, false)) := Lib.hid (rmAll_no (fun h => h1 (h.2 p (List.mem_of_getElem? HP.out))))
        clear h1
        go_wp2_with fail
        refine (HI1.out _).mono ?_
        rintro e w1 ⟨rfl, rfl⟩
        have HRES : Hid (RetI1 (rmAll l) w (.returned (.tuple #[.slice (some ⟨w1.heap.size, 0, none⟩) 0 0, .int .i64 0, .bool false])) (w1.alloc (.cells #[] 3))) := Lib.hid (by rw [HN.out]; exact RetI1.none w w1 HB.out)
        go_wp2_with fail
        go_ret3
        exact HRES.out
    · obtain rfl : k = l.length := by omega
      rw [List.take_length] at HALL
      by_cases h40 : l.length ≤ 40
      · have hok : OkC l := ⟨h40, HALL.out⟩
        have HF := Lib.hid (rmAll_yes hok)
        have HPL := Lib.hid (l5Plan_any b o c l wr (HV.out.below HB.out) hok)
        have h40z : ¬ (40 : Int) < (l.length : Int) := by omega
        obtain ⟨R, hR⟩ : ∃ R, R = planF l := ⟨_, rfl⟩
        rw [← hR] at HF HPL
        clear hok hR
        go_wp2_with fail
        refine (HPL.out).mono ?_
        rintro e w2 ⟨g, cg, rfl, hc, hg, hrow, hb⟩
        have HRES : Hid (RetI1 (rmAll l) w (.returned (.tuple #[.slice (some ⟨g, 0, none⟩) R.1.length cg, .int .i64 (R.2 : Nat), .bool true])) w2) := Lib.hid (by
          rw [HF.out]
          exact ⟨g, cg, rfl, hc, Nat.le_trans HB.out.size hg, hrow, HB.out.trans (hb.mono HB.out.size)⟩)
        clear HPL HF hc hg hrow hb
        go_wp2_with fail
        go_ret3
        exact HRES.out
      · have HN : Hid (rmAll l = ([], 0, false)) := Lib.hid (rmAll_no (fun h => h40 h.1))
        have h40z : (40 : Int) < (l.length : Int) := by omega
        have HRES : Hid (RetI1 (rmAll l) w (.returned (.tuple #[.slice (some ⟨wr.heap.size, 0, none⟩) 0 0, .int .i64 0, .bool false])) (wr.alloc (.cells #[] 3))) := Lib.hid (by rw [HN.out]; exact RetI1.none w wr HB.out)
        go_wp2_with fail
        go_ret3
        exact HRES.out

end Go.Proofs.Ytnjabdlhgmaeiaa
