/- The run stack of adaptive merge sort, as functions. Nothing of the program. -/
import Derived.Test.YtnjabdlhgmaeiaaFlat
namespace Go.Proofs.Ytnjabdlhgmaeiaa.Sk
open Go.Proofs.Ytnjabdlhgmaeiaa
set_option linter.unusedVariables false

/-- The entry k places from the top (the top is 1). -/
def tp (s : List Int) (k : Nat) : Int := s.getD (s.length - k) 0
/-- A merge has to come ahead of the next push. -/
def unb (s : List Int) : Prop := (3 ≤ s.length ∧ tp s 3 ≤ tp s 2 + tp s 1) ∨ (4 ≤ s.length ∧ tp s 4 ≤ tp s 3 + tp s 2) ∨ (2 ≤ s.length ∧ tp s 2 ≤ tp s 1)
instance (s : List Int) : Decidable (unb s) := by unfold unb; exact inferInstance
/-- The lower index of the next merge. -/
def low (s : List Int) : Nat := if 3 ≤ s.length ∧ tp s 3 < tp s 1 then s.length - 3 else s.length - 2
def need (s : List Int) (fin : Bool) : Prop := if fin = true then 2 ≤ s.length else unb s
instance (s : List Int) (fin : Bool) : Decidable (need s fin) := by unfold need; exact inferInstance
theorem need_two {s : List Int} {fin : Bool} (h : need s fin) : 2 ≤ s.length := by
  unfold need at h
  split at h
  · exact h
  · rcases h with h | h | h <;> omega
theorem low_lt {s : List Int} (h : 2 ≤ s.length) : low s + 1 < s.length := by unfold low; split <;> omega
/-- Two neighbours become one. -/
def mrg (s : List Int) (k : Nat) : List Int := s.take k ++ (s.getD k 0 + s.getD (k + 1) 0) :: s.drop (k + 2)
theorem mrg_length {s : List Int} {k : Nat} (h : k + 1 < s.length) : (mrg s k).length = s.length - 1 := by
  unfold mrg; rw [List.length_append, List.length_cons, List.length_take, List.length_drop]; omega
/-- The merges while one is needed. -/
def coll (fin : Bool) (s out : List Int) : List Int × List Int :=
  if h : need s fin then coll fin (mrg s (low s)) (out ++ [(low s : Int)]) else (s, out)
termination_by s.length
decreasing_by have h2 := need_two h; have h3 := mrg_length (low_lt h2); omega
theorem coll_go {fin : Bool} {s : List Int} (out : List Int) (h : need s fin) : coll fin s out = coll fin (mrg s (low s)) (out ++ [(low s : Int)]) := by rw [coll, dif_pos h]
theorem coll_stop {fin : Bool} {s : List Int} (out : List Int) (h : ¬ need s fin) : coll fin s out = (s, out) := by rw [coll, dif_neg h]

/-- The total. -/
def tot : List Int → Int
  | [] => 0
  | x :: l => x + tot l
theorem tot_append : ∀ a b : List Int, tot (a ++ b) = tot a + tot b
  | [], b => by simp [tot]
  | x :: a, b => by rw [List.cons_append, tot, tot, tot_append a b]; omega
theorem tot_nonneg : ∀ {l : List Int}, (∀ x ∈ l, 1 ≤ x) → 0 ≤ tot l
  | [], _ => by simp [tot]
  | x :: l, h => by have := h x (by simp); have := tot_nonneg (l := l) (fun y hy => h y (by simp [hy])); rw [tot]; omega
theorem mem_tot : ∀ {l : List Int}, (∀ x ∈ l, 1 ≤ x) → ∀ x ∈ l, x ≤ tot l
  | [], _, x, hx => by simp at hx
  | y :: l, h, x, hx => by
    have h1 := tot_nonneg (l := l) (fun z hz => h z (by simp [hz]))
    have h2 := h y (by simp)
    rw [tot]
    rcases List.mem_cons.1 hx with rfl | hx
    · omega
    · have := mem_tot (fun z hz => h z (by simp [hz])) x hx; omega
/-- A stack of positive entries. -/
def Pos (B : Int) (s : List Int) : Prop := (∀ x ∈ s, 1 ≤ x) ∧ tot s ≤ B
theorem Pos.at {B : Int} {s : List Int} (h : Pos B s) {k : Nat} (hk : k < s.length) : 1 ≤ s.getD k 0 ∧ s.getD k 0 ≤ B := by
  have hm : s.getD k 0 ∈ s := by rw [List.getD_eq_getElem?_getD, List.getElem?_eq_getElem hk]; exact List.getElem_mem hk
  have := mem_tot h.1 _ hm
  exact ⟨h.1 _ hm, by have := h.2; omega⟩
theorem split2 {s : List Int} {k : Nat} (h : k + 1 < s.length) : s = s.take k ++ s.getD k 0 :: s.getD (k + 1) 0 :: s.drop (k + 2) := by
  have h1 : s.drop k = s.getD k 0 :: s.drop (k + 1) := by rw [List.drop_eq_getElem_cons (by omega), List.getD_eq_getElem?_getD, List.getElem?_eq_getElem (by omega)]; rfl
  have h2 : s.drop (k + 1) = s.getD (k + 1) 0 :: s.drop (k + 2) := by rw [List.drop_eq_getElem_cons (by omega), List.getD_eq_getElem?_getD, List.getElem?_eq_getElem (by omega)]; rfl
  rw [← h2, ← h1, List.take_append_drop]
theorem tot_mrg {s : List Int} {k : Nat} (h : k + 1 < s.length) : tot (mrg s k) = tot s := by
  have e : tot s = tot (s.take k ++ s.getD k 0 :: s.getD (k + 1) 0 :: s.drop (k + 2)) := by rw [← split2 h]
  rw [e]
  unfold mrg
  rw [tot_append, tot_append, tot, tot, tot]; omega
theorem Pos.mrg {B : Int} {s : List Int} (h : Pos B s) {k : Nat} (hk : k + 1 < s.length) : Pos B (mrg s k) := by
  refine ⟨fun x hx => ?_, by rw [tot_mrg hk]; exact h.2⟩
  unfold Sk.mrg at hx
  rcases List.mem_append.1 hx with hx | hx
  · exact h.1 x (List.mem_of_mem_take hx)
  · rcases List.mem_cons.1 hx with rfl | hx
    · have h1 := (h.at (k := k) (by omega)).1
      have h2 := (h.at (k := k + 1) (by omega)).1
      omega
    · exact h.1 x (List.mem_of_mem_drop hx)

/-- All the pushes: the stack, the merges, the most entries. -/
def push : List Int → List Int × List Int × Nat → List Int × List Int × Nat
  | [], S => S
  | c :: cs, S => push cs ((coll false (S.1 ++ [c]) S.2.1).1, (coll false (S.1 ++ [c]) S.2.1).2, max S.2.2 (S.1.length + 1))
theorem push_cons (c : Int) (cs : List Int) (s o : List Int) (m : Nat) : push (c :: cs) (s, o, m) = push cs ((coll false (s ++ [c]) o).1, (coll false (s ++ [c]) o).2, max m (s.length + 1)) := rfl
def planF (cs : List Int) : List Int × Nat := ((coll true (push cs ([], [], 0)).1 (push cs ([], [], 0)).2.1).2, (push cs ([], [], 0)).2.2)

/-- What RunMerges takes. -/
def OkC (l : List Int) : Prop := l.length ≤ 40 ∧ ∀ x ∈ l, 1 ≤ x ∧ x ≤ 100000
instance (l : List Int) : Decidable (OkC l) := by unfold OkC; exact inferInstance
def rmAll (l : List Int) : List Int × Int × Bool := if OkC l then ((planF l).1, ((planF l).2 : Nat), true) else ([], 0, false)
theorem rmAll_yes {l : List Int} (h : OkC l) : rmAll l = ((planF l).1, (((planF l).2 : Nat) : Int), true) := if_pos h
theorem rmAll_no {l : List Int} (h : ¬ OkC l) : rmAll l = ([], 0, false) := if_neg h

/-- The length of the stack and the number of merges go together. -/
theorem coll_len (fin : Bool) : ∀ (n : Nat) (s out : List Int), s.length ≤ n → (coll fin s out).1.length + (coll fin s out).2.length = s.length + out.length ∧ (0 < s.length → 0 < (coll fin s out).1.length) ∧ (fin = true → (coll fin s out).1.length ≤ 1) ∧ (coll fin s out).1.length ≤ s.length := by
  intro n
  induction n with
  | zero =>
    intro s out h
    rw [coll_stop out (fun hn => by have := need_two hn; omega)]
    exact ⟨rfl, fun h => h, fun _ => by simp only; omega, Nat.le_refl _⟩
  | succ n ih =>
    intro s out h
    by_cases hn : need s fin
    · have h2 := need_two hn
      have h3 := mrg_length (low_lt h2)
      rw [coll_go out hn]
      obtain ⟨a1, a2, a3, a4⟩ := ih (mrg s (low s)) (out ++ [(low s : Int)]) (by omega)
      rw [List.length_append] at a1
      simp only [List.length_cons, List.length_nil] at a1
      exact ⟨by omega, fun _ => a2 (by omega), a3, by omega⟩
    · rw [coll_stop out hn]
      refine ⟨rfl, fun h => h, fun hf => ?_, Nat.le_refl _⟩
      subst hf
      unfold need at hn
      simp at hn; simp only; omega
theorem coll_pos (fin : Bool) (B : Int) : ∀ (n : Nat) (s out : List Int), s.length ≤ n → Pos B s → Pos B (coll fin s out).1 ∧ tot (coll fin s out).1 = tot s := by
  intro n
  induction n with
  | zero =>
    intro s out h hp
    rw [coll_stop out (fun hn => by have := need_two hn; omega)]
    exact ⟨hp, rfl⟩
  | succ n ih =>
    intro s out h hp
    by_cases hn : need s fin
    · have h2 := low_lt (need_two hn)
      rw [coll_go out hn]
      obtain ⟨a1, a2⟩ := ih (mrg s (low s)) (out ++ [(low s : Int)]) (by have := mrg_length h2; omega) (hp.mrg h2)
      exact ⟨a1, by rw [a2, tot_mrg h2]⟩
    · rw [coll_stop out hn]; exact ⟨hp, rfl⟩
theorem push_len : ∀ (cs s o : List Int) (m : Nat), (push cs (s, o, m)).1.length + (push cs (s, o, m)).2.1.length = s.length + o.length + cs.length ∧ (push cs (s, o, m)).2.2 ≤ max m (s.length + cs.length) ∧ m ≤ (push cs (s, o, m)).2.2
  | [], s, o, m => ⟨rfl, by show m ≤ _; omega, Nat.le_refl _⟩
  | c :: cs, s, o, m => by
    rw [push_cons]
    obtain ⟨h1, h2, _, h4⟩ := coll_len false (s ++ [c]).length (s ++ [c]) o (Nat.le_refl _)
    obtain ⟨a1, a2, a3⟩ := push_len cs (coll false (s ++ [c]) o).1 (coll false (s ++ [c]) o).2 (max m (s.length + 1))
    rw [List.length_append, List.length_cons, List.length_nil] at h1 h4
    rw [List.length_cons]
    exact ⟨by omega, by omega, by omega⟩
theorem planF_len (cs : List Int) : (planF cs).1.length ≤ cs.length ∧ (planF cs).2 ≤ cs.length := by
  obtain ⟨a1, a2, _⟩ := push_len cs [] [] 0
  obtain ⟨b1, _⟩ := coll_len true _ (push cs ([], [], 0)).1 (push cs ([], [], 0)).2.1 (Nat.le_refl _)
  unfold planF
  simp only [List.length_nil] at a1 a2 ⊢
  exact ⟨by omega, by omega⟩
theorem rmAll_len (l : List Int) : (rmAll l).1.length ≤ 1048576 := by
  by_cases h : OkC l
  · rw [rmAll_yes h]; have h1 := h.1; have h2 := (planF_len l).1; simp only; omega
  · rw [rmAll_no h]; simp

end Go.Proofs.Ytnjabdlhgmaeiaa.Sk
