/- The stable ascending arrangement of a list by a key: there is one, and insertion by exchanges of neighbours finds it. Nothing of the program. -/
namespace Go.Proofs.Ytagibgphegoagaa
namespace Stab

variable {α : Type}

/-- r is the stable arrangement of l: ascending by key, and for each key the same elements in the same order. -/
structure Of (key : α → Int) (l r : List α) : Prop where
  sorted : r.Pairwise (fun a b => key a ≤ key b)
  same : ∀ q : Int, r.filter (fun a => key a == q) = l.filter (fun a => key a == q)

theorem Of.mem {key : α → Int} {l r : List α} (h : Of key l r) (x : α) : x ∈ r ↔ x ∈ l := by
  have e := h.same (key x)
  constructor
  · intro hx
    have : x ∈ r.filter (fun a => key a == key x) := List.mem_filter.2 ⟨hx, by simp⟩
    rw [e] at this
    exact (List.mem_filter.1 this).1
  · intro hx
    have : x ∈ l.filter (fun a => key a == key x) := List.mem_filter.2 ⟨hx, by simp⟩
    rw [← e] at this
    exact (List.mem_filter.1 this).1

theorem same_cons_uniq {key : α → Int} : ∀ (r s : List α), r.Pairwise (fun a b => key a ≤ key b) → s.Pairwise (fun a b => key a ≤ key b) →
    (∀ q : Int, r.filter (fun a => key a == q) = s.filter (fun a => key a == q)) → r = s
  | [], [], _, _, _ => rfl
  | [], y :: s, _, _, h => by have := h (key y); simp at this
  | x :: r, [], _, _, h => by have := h (key x); simp at this
  | x :: r, y :: s, hr, hs, h => by
    have hr1 := List.pairwise_cons.1 hr
    have hs1 := List.pairwise_cons.1 hs
    have hxs : x ∈ y :: s := by
      have e : x ∈ (x :: r).filter (fun a => key a == key x) := List.mem_filter.2 ⟨by simp, by simp⟩
      rw [h (key x)] at e
      exact (List.mem_filter.1 e).1
    have hyr : y ∈ x :: r := by
      have e : y ∈ (y :: s).filter (fun a => key a == key y) := List.mem_filter.2 ⟨by simp, by simp⟩
      rw [← h (key y)] at e
      exact (List.mem_filter.1 e).1
    have hxy : key x = key y := by
      have h1 : key y ≤ key x := by
        rcases List.mem_cons.1 hxs with e | e
        · rw [e]; exact Int.le_refl _
        · exact hs1.1 x e
      have h2 : key x ≤ key y := by
        rcases List.mem_cons.1 hyr with e | e
        · rw [e]; exact Int.le_refl _
        · exact hr1.1 y e
      omega
    have e := h (key x)
    rw [List.filter_cons_of_pos (by simp), List.filter_cons_of_pos (by simp [hxy])] at e
    have hxy2 : x = y := (List.cons.inj e).1
    subst hxy2
    have := same_cons_uniq r s hr1.2 hs1.2 (fun q => by
      have e := h q
      simp only [List.filter_cons] at e
      by_cases hq : (key x == q) = true
      · rw [if_pos hq, if_pos hq] at e
        exact (List.cons.inj e).2
      · rw [if_neg hq, if_neg hq] at e
        exact e)
    rw [this]

theorem Of.uniq {key : α → Int} {l r s : List α} (h : Of key l r) (k : Of key l s) : r = s :=
  same_cons_uniq r s h.sorted k.sorted (fun q => (h.same q).trans (k.same q).symm)

theorem Of.length {key : α → Int} {l r : List α} (h : Of key l r) : r.length = l.length := by
  classical
  suffices hs : ∀ n (r l : List α), r.length + l.length ≤ n → (∀ q : Int, r.filter (fun a => key a == q) = l.filter (fun a => key a == q)) → r.length = l.length from hs _ r l (Nat.le_refl _) h.same
  intro n
  induction n with
  | zero => intro r l hn _; omega
  | succ n ih =>
    intro r l hn hq
    cases r with
    | nil =>
      cases l with
      | nil => rfl
      | cons y s => have := hq (key y); simp at this
    | cons x r =>
      have e1 := List.length_eq_countP_add_countP (l := x :: r) (fun a => key a == key x)
      have e2 := List.length_eq_countP_add_countP (l := l) (fun a => key a == key x)
      have e3 : (x :: r).countP (fun a => key a == key x) = l.countP (fun a => key a == key x) := by
        rw [List.countP_eq_length_filter, List.countP_eq_length_filter, hq]
      have e4 : (x :: r).countP (fun a => key a == key x) ≥ 1 := by
        rw [List.countP_eq_length_filter, List.filter_cons_of_pos (by simp)]; simp
      have h5 := ih ((x :: r).filter (fun a => ¬ (key a == key x) = true)) (l.filter (fun a => ¬ (key a == key x) = true)) (by
        rw [← List.countP_eq_length_filter, ← List.countP_eq_length_filter]; omega) (fun q => by
          rw [List.filter_filter, List.filter_filter]
          have hc : ∀ m : List α, m.filter (fun a => (key a == q) && decide (¬ (key a == key x) = true)) = (m.filter (fun a => key a == q)).filter (fun a => decide (¬ (key a == key x) = true)) := fun m => by
            rw [List.filter_filter]
            congr 1
            funext a
            exact Bool.and_comm _ _
          rw [hc, hc, hq])
      rw [← List.countP_eq_length_filter, ← List.countP_eq_length_filter] at h5
      omega

/-- Two neighbours exchanged. -/
def swap (L : List α) (k : Nat) (x y : α) : List α := (L.set k y).set (k + 1) x

theorem swap_split {L : List α} {k : Nat} {x y : α} (hx : L[k]? = some x) (hy : L[k + 1]? = some y) : L = L.take k ++ x :: y :: L.drop (k + 2) ∧ swap L k x y = L.take k ++ y :: x :: L.drop (k + 2) := by
  have h1 := (List.getElem?_eq_some_iff.1 hx)
  have h2 := (List.getElem?_eq_some_iff.1 hy)
  obtain ⟨hk, ex⟩ := h1
  obtain ⟨hk1, ey⟩ := h2
  have e : L = L.take k ++ x :: y :: L.drop (k + 2) := by
    rw [← ex, ← ey, ← List.drop_eq_getElem_cons hk1, ← List.drop_eq_getElem_cons hk, List.take_append_drop]
  refine ⟨e, ?_⟩
  have hl : (L.take k).length = k := by rw [List.length_take]; omega
  unfold swap
  conv => lhs; rw [e]
  rw [List.set_append_right _ _ (by omega), hl, Nat.sub_self, List.set_cons_zero, List.set_append_right _ _ (by omega), hl, show k + 1 - k = 1 by omega]
  rfl

/-- The same elements for each key. -/
def Same (key : α → Int) (l L : List α) : Prop := ∀ q : Int, L.filter (fun a => key a == q) = l.filter (fun a => key a == q)

theorem Same.swap {key : α → Int} {l L : List α} (h : Same key l L) {k : Nat} {x y : α} (hx : L[k]? = some x) (hy : L[k + 1]? = some y) (hlt : key y < key x) : Same key l (swap L k x y) := by
  intro q
  obtain ⟨e1, e2⟩ := swap_split hx hy
  rw [← h q, e2]
  conv => rhs; rw [e1]
  simp only [List.filter_append, List.filter_cons]
  by_cases hq : key x = q
  · have : ¬ key y = q := by omega
    simp [hq, this]
  · simp [hq]

/-- All pairs up to n but those that end in k are in order. -/
def Up (key : α → Int) (L : List α) (n k : Nat) : Prop := ∀ p q x y, p < q → q ≤ n → q ≠ k → L[p]? = some x → L[q]? = some y → key x ≤ key y

/-- All pairs up to n are in order. -/
def Asc (key : α → Int) (L : List α) (n : Nat) : Prop := ∀ p q x y, p < q → q < n → L[p]? = some x → L[q]? = some y → key x ≤ key y

theorem Up.start {key : α → Int} {L : List α} {n : Nat} (h : Asc key L n) : Up key L n n := fun p q x y hp hq hn hx hy => h p q x y hp (by omega) hx hy

theorem Up.stop0 {key : α → Int} {L : List α} {n : Nat} (h : Up key L n 0) : Asc key L (n + 1) := fun p q x y hp hq hx hy => h p q x y hp (by omega) (by omega) hx hy

theorem Up.stop {key : α → Int} {L : List α} {n k : Nat} (h : Up key L n (k + 1)) (_hk : k + 1 ≤ n) {u v : α} (hu : L[k]? = some u) (hv : L[k + 1]? = some v) (hle : key u ≤ key v) : Asc key L (n + 1) := by
  intro p q x y hp hq hx hy
  by_cases e : q = k + 1
  · subst e
    rw [hv] at hy
    obtain rfl := Option.some.inj hy
    by_cases e2 : p = k
    · subst e2
      rw [hu] at hx
      obtain rfl := Option.some.inj hx
      exact hle
    · have := h p k x u (by omega) (by omega) (by omega) hx hu
      omega
  · exact h p q x y hp (by omega) e hx hy

theorem swap_at {L : List α} {k : Nat} {x y : α} (hx : L[k]? = some x) (hy : L[k + 1]? = some y) (j : Nat) : (swap L k x y)[j]? = if j = k then some y else if j = k + 1 then some x else L[j]? := by
  have h1 := (List.getElem?_eq_some_iff.1 hx).1
  have h2 := (List.getElem?_eq_some_iff.1 hy).1
  unfold swap
  rw [List.getElem?_set, List.getElem?_set]
  by_cases e : j = k
  · subst e; simp [h1]
  · by_cases e2 : j = k + 1
    · subst e2; simp [h2]
    · rw [if_neg (by omega), if_neg (by omega), if_neg e, if_neg e2]

theorem Up.step {key : α → Int} {L : List α} {n k : Nat} (h : Up key L n (k + 1)) (hk : k + 1 ≤ n) {u v : α} (hu : L[k]? = some u) (hv : L[k + 1]? = some v) (hlt : key v < key u) : Up key (swap L k u v) n k := by
  intro p q x y hp hq hqk hx hy
  rw [swap_at hu hv] at hx hy
  by_cases e : q = k + 1
  · subst e
    rw [if_neg (by omega), if_pos rfl] at hy
    obtain rfl := Option.some.inj hy
    by_cases e2 : p = k
    · subst e2
      rw [if_pos rfl] at hx
      obtain rfl := Option.some.inj hx
      omega
    · rw [if_neg e2, if_neg (by omega)] at hx
      exact h p k x _ (by omega) (by omega) (by omega) hx hu
  · rw [if_neg hqk, if_neg e] at hy
    by_cases e2 : p = k
    · subst e2
      rw [if_pos rfl] at hx
      obtain rfl := Option.some.inj hx
      exact h (p + 1) q _ y (by omega) hq e hv hy
    · by_cases e3 : p = k + 1
      · subst e3
        rw [if_neg (by omega), if_pos rfl] at hx
        obtain rfl := Option.some.inj hx
        exact h k q _ y (by omega) hq e hu hy
      · rw [if_neg e2, if_neg e3] at hx
        exact h p q x y hp hq e hx hy

theorem Asc.one {key : α → Int} (L : List α) : Asc key L 1 := fun p q x y hp hq => by omega
theorem Asc.zero {key : α → Int} (L : List α) : Asc key L 0 := fun p q x y hp hq => by omega

theorem Of.done {key : α → Int} {l L : List α} (hs : Same key l L) (ha : Asc key L L.length) : Of key l L := by
  refine ⟨?_, hs⟩
  rw [List.pairwise_iff_getElem]
  intro i j hi hj hij
  exact ha i j _ _ hij hj (List.getElem?_eq_getElem hi) (List.getElem?_eq_getElem hj)

theorem swap_length (L : List α) (k : Nat) (x y : α) : (swap L k x y).length = L.length := by unfold swap; simp

end Stab
end Go.Proofs.Ytagibgphegoagaa
