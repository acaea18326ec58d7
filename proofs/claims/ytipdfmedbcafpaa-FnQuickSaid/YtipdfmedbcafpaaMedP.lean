/- The median of three by the table of its comparisons, pure. -/
import Derived.Test.YtipdfmedbcafpaaQuickP
namespace Go.Proofs.Ytipdfmedbcafpaa
set_option linter.unusedVariables false
namespace Qk
open P El

def vv (a b c : Int) (j : Nat) : Int := if j = 0 then a else if j = 1 then b else c
theorem vv_at {L : List Int} {n : Nat} (j : Nat) : L.getD (pickI n j) 0 = vv (L.getD 0 0) (L.getD (n / 2) 0) (L.getD (n - 1) 0) j := by
  unfold pickI vv; split
  · rfl
  · split <;> rfl
/-- Is one of the others, of the first k, not greater? Not less? -/
def leB (v : Nat → Int) (i : Nat) : Nat → Bool
  | 0 => false
  | k + 1 => if k = i then leB v i k else (leB v i k || decide (v k ≤ v i))
def geB (v : Nat → Int) (i : Nat) : Nat → Bool
  | 0 => false
  | k + 1 => if k = i then geB v i k else (geB v i k || decide (v i ≤ v k))
theorem leB_same {v : Nat → Int} {i k : Nat} (h : k = i) : leB v i (k + 1) = leB v i k := if_pos h
theorem geB_same {v : Nat → Int} {i k : Nat} (h : k = i) : geB v i (k + 1) = geB v i k := if_pos h
theorem leB_step {v : Nat → Int} {i k : Nat} (h : ¬ k = i) : leB v i (k + 1) = (leB v i k || decide (v k ≤ v i)) := if_neg h
theorem geB_step {v : Nat → Int} {i k : Nat} (h : ¬ k = i) : geB v i (k + 1) = (geB v i k || decide (v i ≤ v k)) := if_neg h
theorem med_good {a b c : Int} {i : Nat} (hi : i < 3) (h : i ≤ medI a b c) : (leB (vv a b c) i 3 && geB (vv a b c) i 3) = decide (i = medI a b c) := by
  have h3 : i = 0 ∨ i = 1 ∨ i = 2 := by omega
  rcases h3 with rfl | rfl | rfl
  · have e1 : leB (vv a b c) 0 3 = decide (b ≤ a ∨ c ≤ a) := by simp [leB, vv]
    have e2 : geB (vv a b c) 0 3 = decide (a ≤ b ∨ a ≤ c) := by simp [geB, vv]
    rw [e1, e2]
    unfold medI
    by_cases h0 : (b ≤ a ∨ c ≤ a) ∧ (a ≤ b ∨ a ≤ c)
    · rw [if_pos h0, decide_eq_true h0.1, decide_eq_true h0.2]; rfl
    · rw [if_neg h0]
      have : (decide (b ≤ a ∨ c ≤ a) && decide (a ≤ b ∨ a ≤ c)) = false := by
        rw [← Bool.decide_and]; exact decide_eq_false h0
      rw [this]
      split <;> rfl
  · have e1 : leB (vv a b c) 1 3 = decide (a ≤ b ∨ c ≤ b) := by simp [leB, vv]
    have e2 : geB (vv a b c) 1 3 = decide (b ≤ a ∨ b ≤ c) := by simp [geB, vv]
    rw [e1, e2]
    have h0 : ¬ ((b ≤ a ∨ c ≤ a) ∧ (a ≤ b ∨ a ≤ c)) := fun hh => by unfold medI at h; rw [if_pos hh] at h; omega
    unfold medI
    rw [if_neg h0]
    by_cases h1 : (a ≤ b ∨ c ≤ b) ∧ (b ≤ a ∨ b ≤ c)
    · rw [if_pos h1, decide_eq_true h1.1, decide_eq_true h1.2]; rfl
    · rw [if_neg h1, ← Bool.decide_and, decide_eq_false h1]; rfl
  · have e1 : leB (vv a b c) 2 3 = decide (a ≤ c ∨ b ≤ c) := by simp [leB, vv]
    have e2 : geB (vv a b c) 2 3 = decide (c ≤ a ∨ c ≤ b) := by simp [geB, vv]
    rw [e1, e2]
    have h0 : ¬ ((b ≤ a ∨ c ≤ a) ∧ (a ≤ b ∨ a ≤ c)) := fun hh => by unfold medI at h; rw [if_pos hh] at h; omega
    have h1 : ¬ ((a ≤ b ∨ c ≤ b) ∧ (b ≤ a ∨ b ≤ c)) := fun hh => by unfold medI at h; rw [if_neg h0, if_pos hh] at h; omega
    unfold medI
    rw [if_neg h0, if_neg h1, decide_eq_true (show a ≤ c ∨ b ≤ c by omega), decide_eq_true (show c ≤ a ∨ c ≤ b by omega)]; rfl
theorem medI_le (a b c : Int) : medI a b c ≤ 2 := by unfold medI; split <;> (try split) <;> omega
/-- The indices of the three. -/
def at3 (n : Nat) : List Int := [0, (n : Int) / 2, (n : Int) - 1]
theorem at3_at {n k : Nat} (hn : 0 < n) (hk : k < 3) : (at3 n)[k]? = some ((pickI n k : Nat) : Int) := by
  have h3 : k = 0 ∨ k = 1 ∨ k = 2 := by omega
  unfold at3 pickI
  rcases h3 with rfl | rfl | rfl
  · rfl
  · simp
  · simp; omega

end Qk
end Go.Proofs.Ytipdfmedbcafpaa
