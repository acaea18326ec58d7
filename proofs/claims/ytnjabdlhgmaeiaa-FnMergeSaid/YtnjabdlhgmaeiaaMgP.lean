/- Merging two lists of records, and sorting by merging, as functions. Nothing of the program. -/
import Derived.Test.YtnjabdlhgmaeiaaStab
namespace Go.Proofs.Ytnjabdlhgmaeiaa.Mg
open Go.Proofs.Ytnjabdlhgmaeiaa
set_option linter.unusedVariables false

abbrev Rc := Int × Int

/-- The merge and its comparisons. -/
def mg (a b : List Rc) : List Rc × Nat :=
  match a, b with
  | [], b => (b, 0)
  | x :: a, [] => (x :: a, 0)
  | x :: a, y :: b => if y.1 < x.1 then (y :: (mg (x :: a) b).1, (mg (x :: a) b).2 + 1) else (x :: (mg a (y :: b)).1, (mg a (y :: b)).2 + 1)
termination_by a.length + b.length
decreasing_by all_goals simp_wf <;> omega

theorem mg_nil (b : List Rc) : mg [] b = (b, 0) := by rw [mg]
theorem mg_nil2 (a : List Rc) : mg a [] = (a, 0) := by cases a <;> rw [mg]
theorem mg_b {x y : Rc} {a b : List Rc} (h : y.1 < x.1) : mg (x :: a) (y :: b) = (y :: (mg (x :: a) b).1, (mg (x :: a) b).2 + 1) := by rw [mg, if_pos h]
theorem mg_a {x y : Rc} {a b : List Rc} (h : ¬ y.1 < x.1) : mg (x :: a) (y :: b) = (x :: (mg a (y :: b)).1, (mg a (y :: b)).2 + 1) := by rw [mg, if_neg h]

/-- An induction over both lists. -/
theorem mg_ind {F : List Rc → List Rc → Prop} (h0 : ∀ b, F [] b) (h1 : ∀ a, F a []) (hb : ∀ x a y b, y.1 < x.1 → F (x :: a) b → F (x :: a) (y :: b)) (ha : ∀ x a y b, ¬ y.1 < x.1 → F a (y :: b) → F (x :: a) (y :: b)) : ∀ n a b, a.length + b.length ≤ n → F a b := by
  intro n
  induction n with
  | zero =>
    intro a b h
    have : a = [] := List.eq_nil_of_length_eq_zero (by omega)
    subst this
    exact h0 b
  | succ n ih =>
    intro a b h
    cases a with
    | nil => exact h0 b
    | cons x a =>
      cases b with
      | nil => exact h1 _
      | cons y b =>
        simp only [List.length_cons] at h
        by_cases hx : y.1 < x.1
        · exact hb x a y b hx (ih _ _ (by simp; omega))
        · exact ha x a y b hx (ih _ _ (by simp; omega))

theorem mg_length (a b : List Rc) : (mg a b).1.length = a.length + b.length := by
  refine mg_ind (F := fun a b => (mg a b).1.length = a.length + b.length) ?_ ?_ ?_ ?_ _ a b (Nat.le_refl _)
  · intro b; rw [mg_nil]; simp
  · intro a; rw [mg_nil2]; simp
  · intro x a y b h ih; rw [mg_b h]; simp only [List.length_cons] at ih ⊢; omega
  · intro x a y b h ih; rw [mg_a h]; simp only [List.length_cons] at ih ⊢; omega
theorem mg_count (a b : List Rc) : (mg a b).2 ≤ a.length + b.length ∧ (0 < a.length + b.length → (mg a b).2 < a.length + b.length) := by
  refine mg_ind (F := fun a b => (mg a b).2 ≤ a.length + b.length ∧ (0 < a.length + b.length → (mg a b).2 < a.length + b.length)) ?_ ?_ ?_ ?_ _ a b (Nat.le_refl _)
  · intro b; rw [mg_nil]; exact ⟨Nat.zero_le _, fun h => h⟩
  · intro a; rw [mg_nil2]; exact ⟨Nat.zero_le _, fun h => h⟩
  · intro x a y b h ih; rw [mg_b h]; simp only [List.length_cons] at ih ⊢; omega
  · intro x a y b h ih; rw [mg_a h]; simp only [List.length_cons] at ih ⊢; omega
theorem mg_mem (a b : List Rc) : ∀ z, z ∈ (mg a b).1 ↔ z ∈ a ∨ z ∈ b := by
  refine mg_ind (F := fun a b => ∀ z, z ∈ (mg a b).1 ↔ z ∈ a ∨ z ∈ b) ?_ ?_ ?_ ?_ _ a b (Nat.le_refl _)
  · intro b z; rw [mg_nil]; simp
  · intro a z; rw [mg_nil2]; simp
  · intro x a y b h ih z; rw [mg_b h]; simp only [List.mem_cons] at ih ⊢; rw [ih]; exact or_left_comm
  · intro x a y b h ih z; rw [mg_a h]; simp only [List.mem_cons] at ih ⊢; rw [ih]; exact or_assoc.symm

/-- Ascending by the key. -/
def Up (l : List Rc) : Prop := l.Pairwise (fun a b => a.1 ≤ b.1)

theorem mg_up (a b : List Rc) : Up a → Up b → Up (mg a b).1 := by
  refine mg_ind (F := fun a b => Up a → Up b → Up (mg a b).1) ?_ ?_ ?_ ?_ _ a b (Nat.le_refl _)
  · intro b _ h; rw [mg_nil]; exact h
  · intro a h _; rw [mg_nil2]; exact h
  · intro x a y b h ih h1 h2
    rw [mg_b h]
    obtain ⟨h3, h4⟩ := List.pairwise_cons.1 h2
    obtain ⟨h5, _⟩ := List.pairwise_cons.1 h1
    refine List.pairwise_cons.2 ⟨fun z hz => ?_, ih h1 h4⟩
    rcases (mg_mem _ _ z).1 hz with hz | hz
    · rcases List.mem_cons.1 hz with rfl | hz
      · omega
      · have := h5 z hz; omega
    · exact h3 z hz
  · intro x a y b h ih h1 h2
    rw [mg_a h]
    obtain ⟨h3, _⟩ := List.pairwise_cons.1 h2
    obtain ⟨h5, h6⟩ := List.pairwise_cons.1 h1
    refine List.pairwise_cons.2 ⟨fun z hz => ?_, ih h6 h2⟩
    rcases (mg_mem _ _ z).1 hz with hz | hz
    · exact h5 z hz
    · rcases List.mem_cons.1 hz with rfl | hz
      · omega
      · have := h3 z hz; omega

theorem mg_same (a b : List Rc) : Up a → ∀ q : Int, (mg a b).1.filter (fun p => p.1 == q) = (a ++ b).filter (fun p => p.1 == q) := by
  refine mg_ind (F := fun a b => Up a → ∀ q : Int, (mg a b).1.filter (fun p => p.1 == q) = (a ++ b).filter (fun p => p.1 == q)) ?_ ?_ ?_ ?_ _ a b (Nat.le_refl _)
  · intro b _ q; rw [mg_nil]; simp
  · intro a _ q; rw [mg_nil2]; simp
  · intro x a y b h ih h1 q
    rw [mg_b h]
    have ih := ih h1 q
    obtain ⟨h5, _⟩ := List.pairwise_cons.1 h1
    rw [List.filter_append] at ih ⊢
    by_cases hq : y.1 = q
    · have e : (x :: a).filter (fun p => p.1 == q) = [] := by
        rw [List.filter_eq_nil_iff]
        intro z hz
        simp only [beq_iff_eq]
        rcases List.mem_cons.1 hz with rfl | hz
        · omega
        · have := h5 z hz; omega
      rw [e, List.nil_append] at ih ⊢
      rw [List.filter_cons_of_pos (by simpa using hq), List.filter_cons_of_pos (by simpa using hq), ih]
    · rw [List.filter_cons_of_neg (by simpa using hq), List.filter_cons_of_neg (p := fun p => p.1 == q) (a := y) (by simpa using hq), ih]
  · intro x a y b h ih h1 q
    rw [mg_a h]
    have ih := ih (List.pairwise_cons.1 h1).2 q
    by_cases hq : x.1 = q
    · rw [List.cons_append, List.filter_cons_of_pos (by simpa using hq), List.filter_cons_of_pos (by simpa using hq), ih]
    · rw [List.cons_append, List.filter_cons_of_neg (by simpa using hq), List.filter_cons_of_neg (by simpa using hq), ih]

theorem mg_stab {a b : List Rc} (ha : Up a) (hb : Up b) : Stab.Of (·.1) (a ++ b) (mg a b).1 := ⟨mg_up a b ha hb, mg_same a b ha⟩
/-- The merge of stable arrangements. -/
theorem mg_stab2 {a b c d : List Rc} (ha : Stab.Of (·.1) a c) (hb : Stab.Of (·.1) b d) : Stab.Of (·.1) (a ++ b) (mg c d).1 := by
  refine ⟨mg_up c d ha.sorted hb.sorted, fun q => ?_⟩
  rw [mg_same c d ha.sorted, List.filter_append, List.filter_append, ha.same, hb.same]

/-- Sorting by merging. -/
def ms (l : List Rc) : List Rc × Nat :=
  if h : l.length < 2 then (l, 0)
  else ((mg (ms (l.take (l.length / 2))).1 (ms (l.drop (l.length / 2))).1).1, (ms (l.take (l.length / 2))).2 + (ms (l.drop (l.length / 2))).2 + (mg (ms (l.take (l.length / 2))).1 (ms (l.drop (l.length / 2))).1).2)
termination_by l.length
decreasing_by all_goals (simp_wf; omega)

theorem ms_few {l : List Rc} (h : l.length < 2) : ms l = (l, 0) := by rw [ms, dif_pos h]
theorem ms_more {l : List Rc} (h : ¬ l.length < 2) : ms l = ((mg (ms (l.take (l.length / 2))).1 (ms (l.drop (l.length / 2))).1).1, (ms (l.take (l.length / 2))).2 + (ms (l.drop (l.length / 2))).2 + (mg (ms (l.take (l.length / 2))).1 (ms (l.drop (l.length / 2))).1).2) := by rw [ms, dif_neg h]

theorem ms_spec : ∀ (j : Nat) (l : List Rc), l.length ≤ 2 ^ j → Stab.Of (·.1) l (ms l).1 ∧ (ms l).2 ≤ j * l.length := by
  intro j
  induction j with
  | zero =>
    intro l h
    rw [ms_few (by simp at h; omega)]
    refine ⟨⟨?_, fun _ => rfl⟩, Nat.zero_le _⟩
    match l, h with
    | [], _ => exact List.Pairwise.nil
    | [_], _ => exact List.pairwise_singleton _ _
    | _ :: _ :: _, h => simp at h
  | succ j ih =>
    intro l h
    by_cases h2 : l.length < 2
    · rw [ms_few h2]
      refine ⟨⟨?_, fun _ => rfl⟩, Nat.zero_le _⟩
      match l, h2 with
      | [], _ => exact List.Pairwise.nil
      | [_], _ => exact List.pairwise_singleton _ _
      | _ :: _ :: _, h => simp at h; omega
    · rw [ms_more h2]
      rw [Nat.pow_succ] at h
      have l1 : (l.take (l.length / 2)).length = l.length / 2 := by rw [List.length_take]; omega
      have l2 : (l.drop (l.length / 2)).length = l.length - l.length / 2 := by rw [List.length_drop]
      obtain ⟨a1, a2⟩ := ih (l.take (l.length / 2)) (by omega)
      obtain ⟨b1, b2⟩ := ih (l.drop (l.length / 2)) (by omega)
      refine ⟨by have := mg_stab2 a1 b1; rw [List.take_append_drop] at this; exact this, ?_⟩
      have c1 := (mg_count (ms (l.take (l.length / 2))).1 (ms (l.drop (l.length / 2))).1).1
      have d1 := Stab.Of.length a1
      have d2 := Stab.Of.length b1
      rw [l1] at a2 d1
      rw [l2] at b2 d2
      simp only
      have hs : j * (l.length / 2) + j * (l.length - l.length / 2) = j * l.length := by rw [← Nat.mul_add]; congr 1; omega
      rw [Nat.succ_mul]
      omega
theorem ms_length (l : List Rc) : (ms l).1.length = l.length := Stab.Of.length (ms_spec l.length l (Nat.le_of_lt Nat.lt_two_pow_self)).1
theorem ms_stab (l : List Rc) : Stab.Of (·.1) l (ms l).1 := (ms_spec l.length l (Nat.le_of_lt Nat.lt_two_pow_self)).1
theorem ms_six {l : List Rc} (h : l.length ≤ 64) : (ms l).2 ≤ 6 * l.length := (ms_spec 6 l (by rw [show (2 : Nat) ^ 6 = 64 from rfl]; exact h)).2

/-- No key is less than the one ahead of it. -/
def Asc (l : List Rc) : Prop := ∀ i, i < l.length - 1 → (l.getD i (0, 0)).1 ≤ (l.getD (i + 1) (0, 0)).1
instance (l : List Rc) : Decidable (Asc l) := by unfold Asc; exact inferInstance
theorem up_of_asc : ∀ {l : List Rc}, Asc l → Up l
  | [], _ => List.Pairwise.nil
  | [_], _ => List.pairwise_singleton _ _
  | x :: y :: l, h => by
    have h0 : x.1 ≤ y.1 := by have := h 0 (by simp); simpa using this
    have ih : Up (y :: l) := up_of_asc (fun i hi => by have := h (i + 1) (by simp at hi ⊢; omega); simpa using this)
    refine List.pairwise_cons.2 ⟨fun z hz => ?_, ih⟩
    rcases List.mem_cons.1 hz with rfl | hz
    · exact h0
    · have := (List.pairwise_cons.1 ih).1 z hz; omega
theorem asc_of_up {l : List Rc} (h : Up l) : Asc l := by
  intro i hi
  have h1 : i < l.length := by omega
  have h2 : i + 1 < l.length := by omega
  rw [List.getD_eq_getElem?_getD, List.getD_eq_getElem?_getD, List.getElem?_eq_getElem h1, List.getElem?_eq_getElem h2]
  exact List.pairwise_iff_getElem.1 h i (i + 1) h1 h2 (by omega)

end Go.Proofs.Ytnjabdlhgmaeiaa.Mg
