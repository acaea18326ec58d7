/- Two pivots: where an element goes, pure. -/
import Derived.Test.YtipdfmedbcafpaaSDu
namespace Go.Proofs.Ytipdfmedbcafpaa
set_option linter.unusedVariables false
namespace Qk
open P El

/-- Is e of part j? -/
def selB (a b : Int) (j : Nat) (e : Int) : Bool := (decide (j = 0) == decide (e < a)) && (decide (j = 2) == decide (b < e))
def offD (a b : Int) (l : List Int) : Nat → Nat
  | 0 => 0
  | j + 1 => offD a b l j + (l.filter (selB a b j)).length
theorem sel_low {a b : Int} (h : a ≤ b) (l : List Int) : l.filter (selB a b 0) = lowF l a := by
  unfold lowF; congr 1; funext e; unfold selB
  by_cases h1 : e < a
  · have h2 : ¬ b < e := by omega
    simp [h1, h2]
  · simp [h1]
theorem sel_mid (a b : Int) (l : List Int) : l.filter (selB a b 1) = midF l a b := by
  unfold midF; congr 1; funext e; unfold selB
  by_cases h1 : e < a <;> by_cases h2 : b < e
  · simp [h1, h2] <;> omega
  · simp [h1, h2] <;> omega
  · simp [h1, h2] <;> omega
  · have h3 : a ≤ e ∧ e ≤ b := by omega
    simp [h1, h2, h3]
theorem sel_high {a b : Int} (h : a ≤ b) (l : List Int) : l.filter (selB a b 2) = highF l b := by
  unfold highF; congr 1; funext e; unfold selB
  by_cases h2 : b < e
  · have h1 : ¬ e < a := by omega
    simp [h1, h2]
  · simp [h2]
theorem filt_at {l : List Int} {p : Int → Bool} {i : Nat} {x : Int} (h : l[i]? = some x) (hp : p x = true) : (l.filter p)[((l.take i).filter p).length]? = some x := by
  have e : l = l.take i ++ x :: l.drop (i + 1) := by
    obtain ⟨hi, hx⟩ := List.getElem?_eq_some_iff.1 h
    rw [← hx, ← List.drop_eq_getElem_cons hi, List.take_append_drop]
  have e2 : l.filter p = (l.take i).filter p ++ x :: (l.drop (i + 1)).filter p := by
    conv => lhs; rw [e]
    rw [List.filter_append, List.filter_cons, if_pos hp]
  rw [e2, List.getElem?_append_right (Nat.le_refl _), Nat.sub_self]; rfl
theorem du_at {a b : Int} {l : List Int} (h : a ≤ b) {j i : Nat} {x : Int} (hj : j < 3) (hi : l[i]? = some x) (hs : selB a b j x = true) : (duF l a b)[offD a b l j + ((l.take i).filter (selB a b j)).length]? = some x := by
  have hf := filt_at hi hs
  have hlt := (List.getElem?_eq_some_iff.1 hf).1
  unfold duF
  have h3 : j = 0 ∨ j = 1 ∨ j = 2 := by omega
  rcases h3 with rfl | rfl | rfl
  · rw [sel_low h l] at hf hlt
    show (lowF l a ++ midF l a b ++ highF l b)[0 + _]? = _
    rw [Nat.zero_add, List.append_assoc, List.getElem?_append_left hlt]; exact hf
  · rw [sel_mid a b l] at hf hlt
    show (lowF l a ++ midF l a b ++ highF l b)[0 + (l.filter (selB a b 0)).length + _]? = _
    rw [Nat.zero_add, sel_low h l, List.append_assoc, List.getElem?_append_right (by omega), Nat.add_sub_cancel_left, List.getElem?_append_left hlt]; exact hf
  · rw [sel_high h l] at hf hlt
    show (lowF l a ++ midF l a b ++ highF l b)[0 + (l.filter (selB a b 0)).length + (l.filter (selB a b 1)).length + _]? = _
    rw [Nat.zero_add, sel_low h l, sel_mid a b l, List.getElem?_append_right (by rw [List.length_append]; omega), List.length_append, Nat.add_sub_cancel_left]; exact hf
theorem offD3 {a b : Int} (h : a ≤ b) (l : List Int) : offD a b l 3 = l.length := by
  show 0 + (l.filter (selB a b 0)).length + (l.filter (selB a b 1)).length + (l.filter (selB a b 2)).length = _
  rw [sel_low h l, sel_mid a b l, sel_high h l, Nat.zero_add]; exact du_lens h l
theorem offD_le {a b : Int} (h : a ≤ b) (l : List Int) {j : Nat} (hj : j ≤ 3) : offD a b l j ≤ l.length := by
  have e := offD3 h l
  have e3 : offD a b l 3 = offD a b l 2 + (l.filter (selB a b 2)).length := rfl
  have e2 : offD a b l 2 = offD a b l 1 + (l.filter (selB a b 1)).length := rfl
  have e1 : offD a b l 1 = offD a b l 0 + (l.filter (selB a b 0)).length := rfl
  have h4 : j = 0 ∨ j = 1 ∨ j = 2 ∨ j = 3 := by omega
  rcases h4 with rfl | rfl | rfl | rfl <;> omega

end Qk
end Go.Proofs.Ytipdfmedbcafpaa
