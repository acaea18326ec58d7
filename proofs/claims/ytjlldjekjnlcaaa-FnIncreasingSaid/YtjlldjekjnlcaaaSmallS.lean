/- Small lists of rows. -/
import Derived.Test.YtjlldjekjnlcaaaHeldR
namespace Go.Proofs.Ytjlldjekjnlcaaa
open Go.RowKit P

def SmallSS (M : List (List Int)) : Prop := M.length ≤ 1048576 ∧ (∀ (j : Nat) x, M[j]? = some x → x.length ≤ 1048576) ∧ offs M M.length ≤ 1048576
theorem offs_sum (M : List (List Int)) : offs M M.length = (M.map List.length).sum := by unfold offs; rw [List.take_length]
theorem SmallSS.of {M : List (List Int)} (h1 : M.length ≤ 1048576) (h2 : (M.map List.length).sum ≤ 1048576) : SmallSS M :=
  ⟨h1, fun j x hx => by
    have a := offs_succ hx
    have b := offs_le M (j + 1)
    rw [offs_sum] at b
    omega, by rw [offs_sum]; exact h2⟩
theorem Nest.rowsI {w : World} {g lo hi c : Nat} {M : List (List Int)} {G C : Nat → Nat} (h : Nest w g lo hi (M.map ints) G C) (hc : M.length ≤ c) : RowsAt w (.slice (some ⟨g, 0, none⟩) M.length c) (M.map ints) := by
  have := h.rows (c := c) (by rw [List.length_map]; exact hc)
  rw [List.length_map] at this
  exact this
theorem nats_lens (X : List (List Nat)) : (X.map nats).map List.length = X.map List.length := by
  rw [List.map_map]
  apply List.map_congr_left
  intro x _
  exact nats_length x

end Go.Proofs.Ytjlldjekjnlcaaa
