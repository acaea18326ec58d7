/- Answers whose first part is a tree of levels: all new, or of no length. -/
import Derived.Test.YtgfdpjmhdijdiaaIBm
import Derived.Test.YtgfdpjmhdijdiaaISrt
import Derived.Test.YtgfdpjmhdijdiaaSmallS
namespace Go.Proofs.Ytgfdpjmhdijdiaa
open Go.RowKit P El Mt
set_option linter.unusedVariables false

def RetMT2 (r : List (List Int) × Bool) (w : World) (e : Ending) (w' : World) : Prop :=
  ∃ g c G C, e = .returned (.tuple #[.agg #[.slice (some ⟨g, 0, none⟩) r.1.length c], .bool r.2]) ∧ r.1.length ≤ c ∧ Nest w' g w.heap.size w'.heap.size (r.1.map ints) G C ∧ Below w.heap.size w w'
def RetMTZ (b : Bool) (w : World) (e : Ending) (w' : World) : Prop :=
  ∃ a c, e = .returned (.tuple #[.agg #[.slice a 0 c], .bool b]) ∧ Below w.heap.size w w'
theorem RetMTb.own {r : List (List Int) × Bool} {w w' : World} {e : Ending} (h : RetMTb r w e w') (h0 : r.1 ≠ []) : RetMT2 r w e w' := by
  obtain ⟨v, X, rfl, hh, hm, hb⟩ := h
  have hX : X ≠ [] := fun e => h0 (by rw [← hm, e]; rfl)
  rcases hh.nn with ⟨_, e⟩ | ⟨g, c, rfl, _⟩
  · exact absurd e hX
  · obtain ⟨_, h2, h3⟩ := hh.nest
    have hl : X.length = r.1.length := by rw [← hm]; simp
    have e3 : (X.map fun x => x.L) = r.1 := hm
    rw [e3] at h3
    exact ⟨g, c, _, _, by rw [hl], by rw [← hl]; exact h2, h3, hb⟩
theorem RetMTb.zero {r : List (List Int) × Bool} {w w' : World} {e : Ending} (h : RetMTb r w e w') (h0 : r.1 = []) : RetMTZ r.2 w e w' := by
  obtain ⟨v, X, rfl, hh, hm, hb⟩ := h
  have hX : X = [] := by rw [h0] at hm; exact List.map_eq_nil_iff.1 hm
  rcases hh.nn with ⟨rfl, _⟩ | ⟨g, c, rfl, _⟩
  · exact ⟨none, 0, rfl, hb⟩
  · rw [hX]; exact ⟨_, _, rfl, hb⟩
theorem bmF_small (l : List Int) : SmallSS (bmF l).1 := by
  by_cases h : OkL l
  · rw [bmF_yes h]
    have h7 := (lc_dec l.length (by have := h.1; omega)).2.1
    refine SmallSS.of (by rw [lvs_len]; omega) ?_
    have hs : ∀ n, (((List.range n).map fun e => lv l (2 ^ e)).map List.length).sum = n * l.length := by
      intro n
      induction n with
      | zero => simp
      | succ n ih =>
        rw [List.range_succ, List.map_append, List.map_append, List.sum_append, ih, Nat.succ_mul]
        simp [lv_len (Nat.two_pow_pos n)]
    show (((List.range (lc l.length)).map fun e => lv l (2 ^ e)).map List.length).sum ≤ _
    rw [hs]
    exact Nat.le_trans (Nat.mul_le_mul h7 h.1) (by decide)
  · rw [bmF_no h]; exact SmallSS.of (by simp) (by simp)

end Go.Proofs.Ytgfdpjmhdijdiaa
