/- Natural runs, as functions. Nothing of the program. -/
import Derived.Test.YtnjabdlhgmaeiaaStab
namespace Go.Proofs.Ytnjabdlhgmaeiaa.Ru
open Go.Proofs.Ytnjabdlhgmaeiaa
set_option linter.unusedVariables false

abbrev Rc := Int × Int

/-- The key at k is less than the key ahead of it. -/
def dn (l : List Rc) (k : Nat) : Bool := decide ((l.getD k (0, 0)).1 < (l.getD (k - 1) (0, 0)).1)
/-- How far the list goes on in this direction. -/
def ext (l : List Rc) (d : Bool) (k : Nat) : Nat := if _h : k < l.length ∧ dn l k = d then ext l d (k + 1) else k
termination_by l.length - k
decreasing_by omega
theorem ext_go {l : List Rc} {d : Bool} {k : Nat} (h : k < l.length) (hd : dn l k = d) : ext l d k = ext l d (k + 1) := by rw [ext, dif_pos ⟨h, hd⟩]
theorem ext_stop {l : List Rc} {d : Bool} {k : Nat} (h : ¬ (k < l.length ∧ dn l k = d)) : ext l d k = k := by rw [ext, dif_neg h]
theorem ext_spec (l : List Rc) (d : Bool) : ∀ n k, l.length - k ≤ n → k ≤ ext l d k ∧ (k ≤ l.length → ext l d k ≤ l.length) ∧ (∀ j, k ≤ j → j < ext l d k → dn l j = d) ∧ (ext l d k < l.length → dn l (ext l d k) ≠ d) := by
  intro n
  induction n with
  | zero =>
    intro k hn
    rw [ext_stop (by omega)]
    exact ⟨Nat.le_refl _, fun h => h, fun j h1 h2 => by omega, fun h => by omega⟩
  | succ n ih =>
    intro k hn
    by_cases h : k < l.length ∧ dn l k = d
    · rw [ext_go h.1 h.2]
      obtain ⟨h1, h2, h3, h4⟩ := ih (k + 1) (by omega)
      refine ⟨by omega, fun _ => h2 (by omega), fun j hj1 hj2 => ?_, h4⟩
      by_cases e : j = k
      · rw [e]; exact h.2
      · exact h3 j (by omega) hj2
    · rw [ext_stop h]
      exact ⟨Nat.le_refl _, fun h => h, fun j h1 h2 => by omega, fun hk hd => h ⟨hk, hd⟩⟩

/-- The end of the run that starts at i. -/
def rend (l : List Rc) (i : Nat) : Nat := if i + 1 < l.length then ext l (dn l (i + 1)) (i + 2) else i + 1
theorem rend_gt (l : List Rc) (i : Nat) : i < rend l i := by
  unfold rend
  split
  · have := (ext_spec l (dn l (i + 1)) _ (i + 2) (Nat.le_refl _)).1; omega
  · omega
theorem rend_le {l : List Rc} {i : Nat} (h : i < l.length) : rend l i ≤ l.length := by
  unfold rend
  split
  · exact (ext_spec l (dn l (i + 1)) _ (i + 2) (Nat.le_refl _)).2.1 (by omega)
  · omega
/-- From the next element on. -/
theorem rend_next {l : List Rc} {i : Nat} (h : i + 1 < l.length) : rend l i = ext l (dn l (i + 1)) (i + 1) := by
  rw [ext_go h rfl]; unfold rend; rw [if_pos h]
theorem rend_two {l : List Rc} {i : Nat} (h : i + 1 < l.length) : rend l i = ext l (dn l (i + 1)) (i + 2) := by unfold rend; rw [if_pos h]
theorem rend_last {l : List Rc} {i : Nat} (h : ¬ i + 1 < l.length) : rend l i = i + 1 := by unfold rend; rw [if_neg h]
/-- The number of elements of the run at i; none behind the end. -/
def rcnt (l : List Rc) (i : Nat) : Nat := if i < l.length then rend l i - i else 0
theorem rcnt_in {l : List Rc} {i : Nat} (h : i < l.length) : rcnt l i = rend l i - i := if_pos h
theorem rcnt_out {l : List Rc} {i : Nat} (h : ¬ i < l.length) : rcnt l i = 0 := if_neg h
theorem rcnt_pos {l : List Rc} {i : Nat} (h : i < l.length) : 1 ≤ rcnt l i ∧ i + rcnt l i ≤ l.length ∧ i + rcnt l i = rend l i := by
  have h1 := rend_gt l i; have h2 := rend_le h; rw [rcnt_in h]; omega

/-- The runs from i on. -/
def runsF (l : List Rc) (i : Nat) : List Rc := if _h : i < l.length then ((i : Int), ((rcnt l i : Nat) : Int)) :: runsF l (i + rcnt l i) else []
termination_by l.length - i
decreasing_by have := rcnt_pos _h; omega
theorem runsF_in {l : List Rc} {i : Nat} (h : i < l.length) : runsF l i = ((i : Int), ((rcnt l i : Nat) : Int)) :: runsF l (i + rcnt l i) := by rw [runsF, dif_pos h]
theorem runsF_out {l : List Rc} {i : Nat} (h : ¬ i < l.length) : runsF l i = [] := by rw [runsF, dif_neg h]
theorem runsF_len (l : List Rc) : ∀ n i, l.length - i ≤ n → (runsF l i).length ≤ l.length - i := by
  intro n
  induction n with
  | zero => intro i h; rw [runsF_out (by omega)]; simp
  | succ n ih =>
    intro i h
    by_cases hi : i < l.length
    · rw [runsF_in hi]
      have := rcnt_pos hi
      have := ih (i + rcnt l i) (by omega)
      simp only [List.length_cons]; omega
    · rw [runsF_out hi]; simp

end Go.Proofs.Ytnjabdlhgmaeiaa.Ru
