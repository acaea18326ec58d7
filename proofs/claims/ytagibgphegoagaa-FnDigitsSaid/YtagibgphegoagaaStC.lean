/- The stable arrangement under a comparison, in pure terms: insertion, merging by parts, and the passes over blocks. Nothing of the program. -/
import Derived.Sort.WalkA
import Derived.Sort.Lot0
namespace Go.Proofs.Ytagibgphegoagaa
namespace StC
open Go.Sort

variable {α : Type} {lt : α → α → Bool}

def tie (lt : α → α → Bool) (x y : α) : Bool := !lt x y && !lt y x

/-- r is the stable arrangement of l. -/
structure St (lt : α → α → Bool) (l r : List α) : Prop where
  perm : r.Perm l
  sorted : r.Pairwise (fun a b => lt b a = false)
  same : ∀ x, r.filter (tie lt x) = l.filter (tie lt x)

theorem St.self {l : List α} (h : l.Pairwise (fun a b => lt b a = false)) : St lt l l := ⟨.refl _, h, fun _ => rfl⟩
theorem St.nil : St lt ([] : List α) [] := ⟨.refl _, .nil, fun _ => rfl⟩
theorem St.len {l r : List α} (h : St lt l r) : r.length = l.length := h.perm.length_eq
theorem St.trans {l r s : List α} (h : St lt l r) (k : St lt r s) : St lt l s := ⟨k.perm.trans h.perm, k.sorted, fun x => (k.same x).trans (h.same x)⟩
/-- Parts in their stable arrangements, arranged together. -/
theorem St.over {l l' X X' M : List α} (h : St lt l X) (h' : St lt l' X') (k : St lt (X ++ X') M) : St lt (l ++ l') M :=
  ⟨k.perm.trans (h.perm.append h'.perm), k.sorted, fun x => by rw [k.same, List.filter_append, List.filter_append, h.same, h'.same]⟩

theorem not_both [Inhabited α] (hO : SWO lt) {x r l : α} (hr : tie lt x r = true) (hl : tie lt x l = true) : lt r l = false := by
  simp only [tie, Bool.and_eq_true, Bool.not_eq_true'] at hr hl
  exact hO.ntrans r x l hr.2 hl.1

theorem St.split [Inhabited α] (hO : SWO lt) {L1 L2 R1 R2 X Y : List α} (hL : (L1 ++ L2).Pairwise (fun a b => lt b a = false)) (hR : (R1 ++ R2).Pairwise (fun a b => lt b a = false))
    (h21 : ∀ r ∈ R1, ∀ l ∈ L2, lt r l = true) (h12 : ∀ l ∈ L1, ∀ r ∈ R2, lt r l = false) (hX : St lt (L1 ++ R1) X) (hY : St lt (L2 ++ R2) Y) : St lt ((L1 ++ L2) ++ (R1 ++ R2)) (X ++ Y) := by
  have pL := List.pairwise_append.1 hL
  have pR := List.pairwise_append.1 hR
  refine ⟨?_, ?_, fun x => ?_⟩
  · refine (hX.perm.append hY.perm).trans ?_
    rw [List.append_assoc, List.append_assoc]
    refine List.Perm.append_left L1 ?_
    rw [← List.append_assoc, ← List.append_assoc]
    exact List.Perm.append_right R2 List.perm_append_comm
  · refine List.pairwise_append.2 ⟨hX.sorted, hY.sorted, fun a ha b hb => ?_⟩
    have ha := List.mem_append.1 ((hX.perm.mem_iff).1 ha)
    have hb := List.mem_append.1 ((hY.perm.mem_iff).1 hb)
    rcases ha with ha | ha <;> rcases hb with hb | hb
    · exact pL.2.2 a ha b hb
    · exact h12 a ha b hb
    · have := h21 a ha b hb
      cases e : lt b a with
      | false => rfl
      | true => have := hO.trans a b a this e; rw [hO.irrefl] at this; exact this.symm
    · exact pR.2.2 a ha b hb
  · rw [List.filter_append, hX.same, hY.same]
    simp only [List.filter_append, List.append_assoc]
    congr 1
    rw [← List.append_assoc, ← List.append_assoc]
    congr 1
    cases e1 : R1.filter (tie lt x) with
    | nil => simp
    | cons r rs =>
      cases e2 : L2.filter (tie lt x) with
      | nil => simp
      | cons l ls =>
        have hr := List.mem_filter.1 (show r ∈ R1.filter (tie lt x) by rw [e1]; simp)
        have hl := List.mem_filter.1 (show l ∈ L2.filter (tie lt x) by rw [e2]; simp)
        have h1 := h21 r hr.1 l hl.1
        rw [not_both hO hr.2 hl.2] at h1
        exact absurd h1 (by simp)

/-! ### Rows in parts -/
section
variable [Inhabited α]
theorem at_len (p s : List α) (x : α) {i : Nat} (hi : i = p.length) : (p ++ x :: s).toArray[i]! = x := by
  subst hi; simp

theorem swp_parts (p m s : List α) (x y : α) {i j : Nat} (hi : i = p.length) (hj : j = p.length + 1 + m.length) : swp (p ++ x :: m ++ y :: s).toArray i j = (p ++ y :: m ++ x :: s).toArray := by
  have e1 : (p ++ x :: m ++ y :: s).toArray[i]! = x := by
    rw [show p ++ x :: m ++ y :: s = p ++ x :: (m ++ y :: s) by simp]; exact at_len _ _ _ hi
  have e2 : (p ++ x :: m ++ y :: s).toArray[j]! = y := at_len _ _ _ (by simp; omega)
  unfold swp
  rw [e1, e2]
  simp only [List.setIfInBounds_toArray]
  congr 1
  rw [show p ++ x :: m ++ y :: s = p ++ x :: (m ++ y :: s) by simp, List.set_append_right _ _ (by omega), hi, Nat.sub_self, List.set_cons_zero]
  rw [show p ++ y :: (m ++ y :: s) = (p ++ y :: m) ++ y :: s by simp, List.set_append_right _ _ (by simp; omega), show j - (p ++ y :: m).length = 0 by simp; omega, List.set_cons_zero]

theorem swp_parts' (p m s : List α) (x y : α) {i j : Nat} (hi : i = p.length) (hj : j = p.length + 1 + m.length) : swp (p ++ x :: m ++ y :: s).toArray j i = (p ++ y :: m ++ x :: s).toArray := by
  have e1 : (p ++ x :: m ++ y :: s).toArray[i]! = x := by
    rw [show p ++ x :: m ++ y :: s = p ++ x :: (m ++ y :: s) by simp]; exact at_len _ _ _ hi
  have e2 : (p ++ x :: m ++ y :: s).toArray[j]! = y := at_len _ _ _ (by simp; omega)
  unfold swp
  rw [e1, e2]
  simp only [List.setIfInBounds_toArray]
  congr 1
  rw [show p ++ x :: m ++ y :: s = (p ++ x :: m) ++ y :: s by simp, List.set_append_right _ _ (by simp; omega), show j - (p ++ x :: m).length = 0 by simp; omega, List.set_cons_zero]
  rw [show (p ++ x :: m) ++ x :: s = p ++ x :: (m ++ x :: s) by simp, List.set_append_right _ _ (by omega), hi, Nat.sub_self, List.set_cons_zero]
  simp

omit [Inhabited α] in
theorem around (l : List α) (i : Nat) (h : i < l.length) : ∃ l1 x l2, l = l1 ++ x :: l2 ∧ l1.length = i := ⟨l.take i, l[i], l.drop (i + 1), by rw [← List.drop_eq_getElem_cons h, List.take_append_drop], by rw [List.length_take]; omega⟩
omit [Inhabited α] in
theorem halves (l1 l2 : List α) (x : α) {i : Nat} (h : l1.length = i) : (l1 ++ x :: l2).take i = l1 ∧ (l1 ++ x :: l2).drop i = x :: l2 ∧ (l1 ++ x :: l2).take (i + 1) = l1 ++ [x] ∧ (l1 ++ x :: l2).drop (i + 1) = l2 := by
  refine ⟨List.take_left' h, List.drop_left' h, ?_, ?_⟩
  · rw [show l1 ++ x :: l2 = (l1 ++ [x]) ++ l2 by simp]; exact List.take_left' (by simp [h])
  · rw [show l1 ++ x :: l2 = (l1 ++ [x]) ++ l2 by simp]; exact List.drop_left' (by simp [h])
theorem swap_half (p X M Y s : List α) (i : Nat) (h1 : i < X.length) (h2 : i < Y.length) {a b : Nat} (ha : a = p.length + i) (hb : b = p.length + X.length + M.length + i) :
    swp (p ++ Y.take i ++ X.drop i ++ M ++ X.take i ++ Y.drop i ++ s).toArray a b = (p ++ Y.take (i + 1) ++ X.drop (i + 1) ++ M ++ X.take (i + 1) ++ Y.drop (i + 1) ++ s).toArray := by
  obtain ⟨X1, x, X2, rfl, e1⟩ := around X i h1
  obtain ⟨Y1, y, Y2, rfl, e2⟩ := around Y i h2
  obtain ⟨q1, q2, q3, q4⟩ := halves X1 X2 x e1
  obtain ⟨r1, r2, r3, r4⟩ := halves Y1 Y2 y e2
  rw [q1, q2, q3, q4, r1, r2, r3, r4]
  rw [show p ++ Y1 ++ x :: X2 ++ M ++ X1 ++ y :: Y2 ++ s = (p ++ Y1) ++ x :: (X2 ++ M ++ X1) ++ y :: (Y2 ++ s) by simp]
  rw [swp_parts _ _ _ _ _ (by simp; omega) (by simp at hb ⊢; omega)]
  simp

/-! ### Merging by parts -/
theorem at_part (p l s : List α) (i : Nat) (h : i < l.length) {j : Nat} (hj : j = p.length + i) : (p ++ l ++ s).toArray[j]! = l[i]! := by
  obtain ⟨l1, x, l2, rfl, e⟩ := around l i h
  rw [show p ++ (l1 ++ x :: l2) ++ s = (p ++ l1) ++ x :: (l2 ++ s) by simp, at_len _ _ _ (by simp; omega)]
  simp [← e]
theorem cut (hO : SWO lt) (l r : List α) (hl : l.Pairwise (fun a b => lt b a = false)) (hr : r.Pairwise (fun a b => lt b a = false)) (u v : Nat) (hu : u ≤ l.length) (hv : v ≤ r.length) :
    ((v = 0 ∨ u = l.length ∨ lt r[v - 1]! l[u]! = true) → ∀ x ∈ r.take v, ∀ y ∈ l.drop u, lt x y = true) ∧ ((u = 0 ∨ v = r.length ∨ lt r[v]! l[u - 1]! = false) → ∀ y ∈ l.take u, ∀ x ∈ r.drop v, lt x y = false) := by
  have last : ∀ (l : List α), l.Pairwise (fun a b => lt b a = false) → ∀ u, 0 < u → u ≤ l.length → ∀ y ∈ l.take u, lt l[u - 1]! y = false := by
    intro l hl u h0 hu y hy
    obtain ⟨l1, x, l2, rfl, e⟩ := around l (u - 1) (by omega)
    have e2 : (l1 ++ x :: l2)[u - 1]! = x := by simp [← e]
    have e3 : (l1 ++ x :: l2).take u = l1 ++ [x] := by have := (halves l1 l2 x e).2.2.1; rwa [show u - 1 + 1 = u by omega] at this
    rw [e2]
    rw [e3] at hy
    rcases List.mem_append.1 hy with h | h
    · exact (List.pairwise_append.1 hl).2.2 y h x (by simp)
    · obtain rfl := List.mem_singleton.1 h; exact hO.irrefl _
  have first : ∀ (l : List α), l.Pairwise (fun a b => lt b a = false) → ∀ u, u < l.length → ∀ y ∈ l.drop u, lt y l[u]! = false := by
    intro l hl u hu y hy
    obtain ⟨l1, x, l2, rfl, e⟩ := around l u hu
    have e2 : (l1 ++ x :: l2)[u]! = x := by simp [← e]
    rw [e2]
    rw [(halves l1 l2 x e).2.1] at hy
    rcases List.mem_cons.1 hy with h | h
    · rw [h]; exact hO.irrefl _
    · exact (List.pairwise_cons.1 (List.pairwise_append.1 hl).2.1).1 y h
  constructor
  · intro h x hx y hy
    rcases h with h | h | h
    · subst h; simp at hx
    · rw [List.drop_eq_nil_of_le (by omega)] at hy; simp at hy
    · have v0 : 0 < v := by rcases Nat.eq_zero_or_pos v with e | e; · subst e; simp at hx
                            · exact e
      have u0 : u < l.length := by
        rcases Nat.lt_or_ge u l.length with e | e
        · exact e
        · rw [List.drop_eq_nil_of_le e] at hy; simp at hy
      have h1 := last r hr v v0 hv x hx
      have h2 := first l hl u u0 y hy
      cases e : lt x y with
      | true => rfl
      | false =>
        have := hO.ntrans _ _ _ (hO.ntrans _ _ _ h1 e) h2
        rw [h] at this; exact absurd this (by simp)
  · intro h y hy x hx
    rcases h with h | h | h
    · subst h; simp at hy
    · rw [List.drop_eq_nil_of_le (by omega)] at hx; simp at hx
    · have u0 : 0 < u := by rcases Nat.eq_zero_or_pos u with e | e; · subst e; simp at hy
                            · exact e
      have v0 : v < r.length := by
        rcases Nat.lt_or_ge v r.length with e | e
        · exact e
        · rw [List.drop_eq_nil_of_le e] at hx; simp at hx
      exact hO.ntrans _ _ _ (hO.ntrans _ _ _ (first r hr v v0 x hx) h) (last l hl u u0 hu y hy)

/-- One element ahead of an ascending part. -/
theorem one_left (hO : SWO lt) (p r s : List α) (x : α) (hr : r.Pairwise (fun a b => lt b a = false)) (a m b i : Nat) (ha : a = p.length) (hm : m = a + 1) (hb : b = m + r.length) (h1 : m ≤ i) (h2 : i ≤ b) (dk : Array α) (hd : dk = (p ++ [x] ++ r ++ s).toArray)
    (hi : (i = m ∨ lt dk[i - 1]! dk[a]! = true) ∧ (i = b ∨ lt dk[i]! dk[a]! = false)) : ∃ R1 R2, r = R1 ++ R2 ∧ R1.length = i - m ∧ St lt ([x] ++ r) (R1 ++ x :: R2) := by
  have ex : dk[a]! = x := by rw [hd, show p ++ [x] ++ r ++ s = p ++ x :: (r ++ s) by simp]; exact at_len _ _ _ ha
  have er : ∀ k, k < r.length → dk[m + k]! = r[k]! := fun k hk => by rw [hd]; exact at_part (p ++ [x]) r s k hk (by simp; omega)
  rw [ex] at hi
  have c1 := (cut hO [x] r (by simp) hr 0 (i - m) (by simp) (by omega)).1 (by
    rcases hi.1 with h | h
    · left; omega
    · by_cases e : i = m
      · left; omega
      · right; right
        rw [← er (i - m - 1) (by omega), show m + (i - m - 1) = i - 1 by omega]; simpa using h)
  have c2 := (cut hO [x] r (by simp) hr 1 (i - m) (by simp) (by omega)).2 (by
    rcases hi.2 with h | h
    · right; left; omega
    · by_cases e : i = b
      · right; left; omega
      · right; right
        rw [← er (i - m) (by omega), show m + (i - m) = i by omega]; simpa using h)
  have hp : (r.take (i - m) ++ r.drop (i - m)).Pairwise (fun a b => lt b a = false) := by rw [List.take_append_drop]; exact hr
  have hp2 := List.pairwise_append.1 hp
  refine ⟨r.take (i - m), r.drop (i - m), (List.take_append_drop _ _).symm, by rw [List.length_take]; omega, ?_⟩
  have q := St.split hO (L1 := []) (L2 := [x]) (R1 := r.take (i - m)) (R2 := r.drop (i - m)) (X := r.take (i - m)) (Y := x :: r.drop (i - m)) (by simp) hp (fun y hy l hl => c1 y hy l (by simpa using hl)) (by simp)
    (by simpa using St.self hp2.1) (by simpa using St.self (List.pairwise_cons.2 ⟨fun y hy => c2 x (by simp) y hy, hp2.2.1⟩))
  simpa using q

/-- One element behind an ascending part. -/
theorem one_right (hO : SWO lt) (p l s : List α) (y : α) (hl : l.Pairwise (fun a b => lt b a = false)) (a m i : Nat) (ha : a = p.length) (hm : m = a + l.length) (h1 : a ≤ i) (h2 : i ≤ m) (dk : Array α) (hd : dk = (p ++ l ++ [y] ++ s).toArray)
    (hi : (i = a ∨ lt dk[m]! dk[i - 1]! = false) ∧ (i = m ∨ lt dk[m]! dk[i]! = true)) : ∃ L1 L2, l = L1 ++ L2 ∧ L1.length = i - a ∧ St lt (l ++ [y]) (L1 ++ y :: L2) := by
  have ey : dk[m]! = y := by rw [hd, show p ++ l ++ [y] ++ s = (p ++ l) ++ y :: s by simp]; exact at_len _ _ _ (by simp; omega)
  have el : ∀ k, k < l.length → dk[a + k]! = l[k]! := fun k hk => by rw [hd, show p ++ l ++ [y] ++ s = p ++ l ++ ([y] ++ s) by simp]; exact at_part p l _ k hk (by omega)
  rw [ey] at hi
  have c1 := (cut hO l [y] hl (by simp) (i - a) 1 (by omega) (by simp)).1 (by
    rcases hi.2 with h | h
    · right; left; omega
    · by_cases e : i = m
      · right; left; omega
      · right; right
        rw [← el (i - a) (by omega), show a + (i - a) = i by omega]; simpa using h)
  have c2 := (cut hO l [y] hl (by simp) (i - a) 0 (by omega) (by simp)).2 (by
    rcases hi.1 with h | h
    · left; omega
    · by_cases e : i = a
      · left; omega
      · right; right
        rw [← el (i - a - 1) (by omega), show a + (i - a - 1) = i - 1 by omega]; simpa using h)
  have hp : (l.take (i - a) ++ l.drop (i - a)).Pairwise (fun a b => lt b a = false) := by rw [List.take_append_drop]; exact hl
  have hp2 := List.pairwise_append.1 hp
  refine ⟨l.take (i - a), l.drop (i - a), (List.take_append_drop _ _).symm, by rw [List.length_take]; omega, ?_⟩
  have q := St.split hO (L1 := l.take (i - a)) (L2 := l.drop (i - a)) (R1 := [y]) (R2 := []) (X := l.take (i - a) ++ [y]) (Y := l.drop (i - a)) hp (by simp) (fun z hz x hx => c1 z (by simpa using hz) x hx) (by simp)
    (St.self (List.pairwise_append.2 ⟨hp2.1, by simp, fun z hz x hx => c2 z hz x (by simpa using hx)⟩)) (by simpa using St.self hp2.2.1)
  simpa using q

/-- Both parts cut where symMerge cuts them. -/
theorem sym_cut (hO : SWO lt) (p l r s : List α) (hl : l.Pairwise (fun a b => lt b a = false)) (hr : r.Pairwise (fun a b => lt b a = false)) (a m b mid c : Nat) (ha : a = p.length) (hm : m = a + l.length) (hb : b = m + r.length)
    (h1 : a ≤ c) (h2 : c ≤ m) (h3 : c ≤ mid) (h4 : mid + m ≤ c + b) (dk : Array α) (hd : dk = (p ++ l ++ r ++ s).toArray)
    (h12 : c = a ∨ mid + m = c + b ∨ lt dk[mid + m - 1 - (c - 1)]! dk[c - 1]! = false) (h21 : c = mid ∨ c = m ∨ lt dk[mid + m - 1 - c]! dk[c]! = true) :
    ∃ L1 L2 R1 R2, l = L1 ++ L2 ∧ r = R1 ++ R2 ∧ L1.length = c - a ∧ R1.length = mid - c ∧ (∀ X Y, St lt (L1 ++ R1) X → St lt (L2 ++ R2) Y → St lt (l ++ r) (X ++ Y)) := by
  have el : ∀ k, k < l.length → dk[a + k]! = l[k]! := fun k hk => by rw [hd, show p ++ l ++ r ++ s = p ++ l ++ (r ++ s) by simp]; exact at_part p l _ k hk (by omega)
  have er : ∀ k, k < r.length → dk[m + k]! = r[k]! := fun k hk => by rw [hd]; exact at_part (p ++ l) r s k hk (by simp; omega)
  have c1 := (cut hO l r hl hr (c - a) (mid - c) (by omega) (by omega)).1 (by
    rcases h21 with h | h | h
    · left; omega
    · right; left; omega
    · by_cases e1 : c = mid
      · left; omega
      · by_cases e2 : c = m
        · right; left; omega
        · right; right
          rw [← el (c - a) (by omega), ← er (mid - c - 1) (by omega), show a + (c - a) = c by omega, show m + (mid - c - 1) = mid + m - 1 - c by omega]; exact h)
  have c2 := (cut hO l r hl hr (c - a) (mid - c) (by omega) (by omega)).2 (by
    rcases h12 with h | h | h
    · left; omega
    · right; left; omega
    · by_cases e1 : c = a
      · left; omega
      · by_cases e2 : mid + m = c + b
        · right; left; omega
        · right; right
          rw [← el (c - a - 1) (by omega), ← er (mid - c) (by omega), show a + (c - a - 1) = c - 1 by omega, show m + (mid - c) = mid + m - 1 - (c - 1) by omega]; exact h)
  refine ⟨l.take (c - a), l.drop (c - a), r.take (mid - c), r.drop (mid - c), (List.take_append_drop _ _).symm, (List.take_append_drop _ _).symm, by rw [List.length_take]; omega, by rw [List.length_take]; omega, fun X Y hX hY => ?_⟩
  have q := St.split hO (by rw [List.take_append_drop]; exact hl) (by rw [List.take_append_drop]; exact hr) c1 c2 hX hY
  rwa [List.take_append_drop, List.take_append_drop] at q

theorem shift_right (p R1 t : List α) (x : α) (j : Nat) (h : j < R1.length) {a b : Nat} (ha : a = p.length + j) (hb : b = p.length + j + 1) : swp (p ++ R1.take j ++ x :: (R1.drop j ++ t)).toArray a b = (p ++ R1.take (j + 1) ++ x :: (R1.drop (j + 1) ++ t)).toArray := by
  obtain ⟨l1, y, l2, rfl, e⟩ := around R1 j h
  obtain ⟨q1, q2, q3, q4⟩ := halves l1 l2 y e
  rw [q1, q2, q3, q4, show p ++ l1 ++ x :: (y :: l2 ++ t) = (p ++ l1) ++ x :: [] ++ y :: (l2 ++ t) by simp, swp_parts _ _ _ _ _ (by simp; omega) (by simp; omega)]
  simp
theorem shift_left (p L2 t : List α) (y : α) (j : Nat) (h : j < L2.length) {a b : Nat} (ha : a = p.length + j + 1) (hb : b = p.length + j) : swp (p ++ L2.take (j + 1) ++ y :: (L2.drop (j + 1) ++ t)).toArray a b = (p ++ L2.take j ++ y :: (L2.drop j ++ t)).toArray := by
  obtain ⟨l1, x, l2, rfl, e⟩ := around L2 j h
  obtain ⟨q1, q2, q3, q4⟩ := halves l1 l2 x e
  rw [q1, q2, q3, q4, show p ++ (l1 ++ [x]) ++ y :: (l2 ++ t) = (p ++ l1) ++ x :: [] ++ y :: (l2 ++ t) by simp, swp_parts' _ _ _ _ _ (by simp; omega) (by simp; omega)]
  simp

/-! ### Insertion -/
theorem ins_inner (hO : SWO lt) (p : List α) (y : α) (a : Nat) (ha : a = p.length) : ∀ (n : Nat) (X s : List α), X.length = n → X.Pairwise (fun a b => lt b a = false) →
    ∃ X1 X2, X = X1 ++ X2 ∧ (∀ x ∈ X1, lt y x = false) ∧ (∀ x ∈ X2, lt y x = true) ∧ insInner lt a (a + n) (p ++ X ++ y :: s).toArray = (p ++ X1 ++ y :: X2 ++ s).toArray := by
  intro n
  induction n with
  | zero =>
    intro X s hX _
    obtain rfl := List.length_eq_zero_iff.1 hX
    exact ⟨[], [], rfl, by simp, by simp, by rw [insInner_stop _ _ _ _ (Or.inl (by omega))]; simp⟩
  | succ n ih =>
    intro X s hX hs
    obtain ⟨X', x, rfl⟩ : ∃ X' x, X = X' ++ [x] := by
      rcases List.eq_nil_or_concat X with e | ⟨X', x, e⟩
      · subst e; simp at hX
      · exact ⟨X', x, by simpa using e⟩
    have hX' : X'.length = n := by simpa using hX
    have ex : (p ++ (X' ++ [x]) ++ y :: s).toArray[a + n]! = x := by
      rw [show p ++ (X' ++ [x]) ++ y :: s = (p ++ X') ++ x :: (y :: s) by simp]; exact at_len _ _ _ (by simp; omega)
    have ey : (p ++ (X' ++ [x]) ++ y :: s).toArray[a + (n + 1)]! = y := at_len _ _ _ (by simp; omega)
    have ps := List.pairwise_append.1 hs
    cases hl : lt y x with
    | true =>
      obtain ⟨X1, X2, rfl, h1, h2, h3⟩ := ih X' (x :: s) hX' ps.1
      refine ⟨X1, X2 ++ [x], by simp, h1, fun z hz => ?_, ?_⟩
      · rcases List.mem_append.1 hz with h | h
        · exact h2 z h
        · obtain rfl := List.mem_singleton.1 h; exact hl
      · rw [insInner_go _ _ _ _ (by omega) (by rw [show a + (n + 1) - 1 = a + n by omega, ex, ey]; exact hl), show a + (n + 1) - 1 = a + n by omega]
        rw [show p ++ (X1 ++ X2 ++ [x]) ++ y :: s = (p ++ (X1 ++ X2)) ++ x :: [] ++ y :: s by simp, swp_parts' _ _ _ _ _ (by simp at hX' ⊢; omega) (by simp at hX' ⊢; omega)]
        rw [show p ++ (X1 ++ X2) ++ [y] ++ x :: s = p ++ (X1 ++ X2) ++ y :: (x :: s) by simp, h3]
        congr 1; simp
    | false =>
      refine ⟨X' ++ [x], [], by simp, fun z hz => ?_, by simp, by rw [insInner_stop _ _ _ _ (Or.inr (by rw [show a + (n + 1) - 1 = a + n by omega, ex, ey]; exact hl))]; simp⟩
      rcases List.mem_append.1 hz with h | h
      · exact hO.ntrans y x z hl (ps.2.2 z h x (by simp))
      · obtain rfl := List.mem_singleton.1 h; exact hl

theorem ins_outer (hO : SWO lt) (p s : List α) (a : Nat) (ha : a = p.length) : ∀ (n : Nat) (l X r : List α), r.length = n → St lt l X → ∃ Y, St lt (l ++ r) Y ∧
    insOuter lt a (a + X.length + n) (a + X.length) (p ++ X ++ r ++ s).toArray = (p ++ Y ++ s).toArray := by
  intro n
  induction n with
  | zero =>
    intro l X r hr h
    obtain rfl := List.length_eq_zero_iff.1 hr
    exact ⟨X, by simpa using h, by rw [insOuter_stop _ _ _ _ _ (by omega)]; simp⟩
  | succ n ih =>
    intro l X r hr h
    obtain ⟨y, r, rfl⟩ : ∃ y r', r = y :: r' := by cases r with | nil => simp at hr | cons y r => exact ⟨y, r, rfl⟩
    obtain ⟨X1, X2, rfl, h1, h2, h3⟩ := ins_inner hO p y a ha X.length X (r ++ s) rfl h.sorted
    have hY : St lt (l ++ [y]) (X1 ++ y :: X2) := by
      have hp := List.pairwise_append.1 h.sorted
      have q := St.split hO (L1 := X1) (L2 := X2) (R1 := [y]) (R2 := []) (X := X1 ++ [y]) (Y := X2) h.sorted (by simp) (fun r hr l hl => by obtain rfl := List.mem_singleton.1 hr; exact h2 l hl) (by simp)
        (St.self (List.pairwise_append.2 ⟨hp.1, by simp, fun a ha b hb => by obtain rfl := List.mem_singleton.1 hb; exact h1 a ha⟩)) (by simpa using St.self hp.2.1)
      have := St.over h (St.self (l := [y]) (by simp)) (M := X1 ++ y :: X2) (by simpa using q)
      exact this
    obtain ⟨Y, hS, hE⟩ := ih (l ++ [y]) (X1 ++ y :: X2) r (by simpa using hr) hY
    refine ⟨Y, by simpa using hS, ?_⟩
    rw [insOuter_go _ _ _ _ _ (by omega), show p ++ (X1 ++ X2) ++ y :: r ++ s = p ++ (X1 ++ X2) ++ y :: (r ++ s) by simp, h3]
    have e1 : (X1 ++ y :: X2).length = (X1 ++ X2).length + 1 := by simp; omega
    rw [e1] at hE
    rw [show a + (X1 ++ X2).length + (n + 1) = a + ((X1 ++ X2).length + 1) + n by omega, show a + (X1 ++ X2).length + 1 = a + ((X1 ++ X2).length + 1) by omega, ← hE]
    congr 2
    simp

theorem insertion_parts (hO : SWO lt) (p l s : List α) {a b : Nat} (ha : a = p.length) (hb : b = p.length + l.length) : ∃ Y, St lt l Y ∧ insertionSort lt (p ++ l ++ s).toArray a b = (p ++ Y ++ s).toArray := by
  cases l with
  | nil => exact ⟨[], St.nil, by unfold insertionSort; rw [insOuter_stop _ _ _ _ _ (by simp at hb; omega)]⟩
  | cons x l =>
    obtain ⟨Y, h1, h2⟩ := ins_outer hO p s a ha l.length [x] [x] l rfl (St.self (by simp))
    refine ⟨Y, by simpa using h1, ?_⟩
    unfold insertionSort
    simp only [List.length_singleton] at h2
    rw [show b = a + 1 + l.length by simp at hb; omega, ← h2]
    congr 1
    simp

end
/-! ### Blocks -/
def seg (l : List α) (i n : Nat) : List α := (l.drop i).take n

theorem seg_len (l : List α) (i n : Nat) : (seg l i n).length = min n (l.length - i) := by unfold seg; simp
theorem seg_full (l : List α) {n : Nat} (h : l.length ≤ n) : seg l 0 n = l := by unfold seg; simp [List.take_of_length_le h]
theorem seg_out (l : List α) {i : Nat} (n : Nat) (h : l.length ≤ i) : seg l i n = [] := by unfold seg; simp [List.drop_eq_nil_of_le h]
theorem seg_two (l : List α) (i n : Nat) : seg l i (2 * n) = seg l i n ++ seg l (i + n) n := by
  unfold seg
  rw [show 2 * n = n + n by omega, List.take_add, List.drop_drop]
theorem parts (l : List α) (i n : Nat) : l = l.take i ++ seg l i n ++ l.drop (i + n) := by
  unfold seg
  rw [List.append_assoc, ← List.drop_drop, List.take_append_drop, List.take_append_drop]
/-- A part exchanged for one of its length. -/
def put (l : List α) (i n : Nat) (M : List α) : List α := l.take i ++ M ++ l.drop (i + n)
theorem put_len (l : List α) {i n : Nat} {M : List α} (h : M.length = (seg l i n).length) : (put l i n M).length = l.length := by
  have := congrArg List.length (parts l i n)
  simp only [List.length_append] at this
  unfold put; simp only [List.length_append]; omega
theorem put_before (l : List α) {i n j m : Nat} {M : List α} (hi : i ≤ l.length) (h : j + m ≤ i) : seg (put l i n M) j m = seg l j m := by
  unfold seg put
  rw [List.append_assoc, List.drop_append_of_le_length (by simp; omega), List.take_append_of_le_length (by simp; omega), List.drop_take, List.take_take]
  congr 1; omega
theorem put_at (l : List α) {i n m : Nat} {M : List α} (hi : i ≤ l.length) (hM : M.length = (seg l i n).length) (h : n ≤ m) (hm : m ≤ n) : seg (put l i n M) i m = M := by
  have hm : m = n := by omega
  subst hm
  rw [seg_len] at hM
  unfold seg put
  rw [List.append_assoc, List.drop_append, List.length_take, Nat.min_eq_left hi, Nat.sub_self, List.drop_zero, List.drop_eq_nil_of_le (by simp; omega), List.nil_append]
  rw [List.take_append]
  by_cases e : M.length = m
  · rw [List.take_of_length_le (by omega), e, Nat.sub_self, List.take_zero, List.append_nil]
  · rw [List.take_of_length_le (by omega), List.drop_eq_nil_of_le (by omega)]; simp
theorem put_after (l : List α) {i n : Nat} {M : List α} (hM : M.length = (seg l i n).length) (hi : i ≤ l.length) {j : Nat} (h : i + n ≤ j) : (put l i n M).drop j = l.drop j := by
  rw [seg_len] at hM
  unfold put
  rw [List.append_assoc, List.drop_append, List.length_take, Nat.min_eq_left hi, List.drop_eq_nil_of_le (by simp; omega), List.nil_append, List.drop_append, List.drop_eq_nil_of_le (by omega), List.nil_append, List.drop_drop]
  by_cases e : M.length = n
  · congr 1; omega
  · rw [List.drop_eq_nil_of_le (by omega), List.drop_eq_nil_of_le (by omega)]
theorem put_after_seg (l : List α) {i n : Nat} {M : List α} (hM : M.length = (seg l i n).length) (hi : i ≤ l.length) {j : Nat} (m : Nat) (h : i + n ≤ j) : seg (put l i n M) j m = seg l j m := by
  unfold seg; rw [put_after l hM hi h]

/-- Each block of bs is in its stable arrangement. -/
def Blocks (lt : α → α → Bool) (bs : Nat) (l X : List α) : Prop := X.length = l.length ∧ ∀ q, St lt (seg l (q * bs) bs) (seg X (q * bs) bs)
/-- The first t blocks of n are; from there on all is as it was in W. -/
def Upto (lt : α → α → Bool) (n : Nat) (l W X : List α) (t : Nat) : Prop := X.length = l.length ∧ (∀ q, q < t → St lt (seg l (q * n) n) (seg X (q * n) n)) ∧ X.drop (t * n) = W.drop (t * n)

theorem Upto.start {n : Nat} {l W : List α} (h : W.length = l.length) : Upto lt n l W W 0 := ⟨h, fun q hq => absurd hq (by omega), rfl⟩

theorem Upto.step {n : Nat} {l W X : List α} {t : Nat} (h : Upto lt n l W X t) (ht : t * n ≤ l.length) {M : List α} (hM : St lt (seg l (t * n) n) M) : Upto lt n l W (put X (t * n) n M) (t + 1) := by
  have hl : M.length = (seg X (t * n) n).length := by rw [hM.len, seg_len, seg_len, h.1]
  have ht' : t * n ≤ X.length := by rw [h.1]; exact ht
  refine ⟨by rw [put_len _ hl, h.1], fun q hq => ?_, ?_⟩
  · by_cases e : q = t
    · subst e; rw [put_at _ ht' hl (Nat.le_refl _) (Nat.le_refl _)]; exact hM
    · have : q * n + n ≤ t * n := by
        have := Nat.mul_le_mul_right n (show q + 1 ≤ t by omega)
        rwa [Nat.add_mul, Nat.one_mul] at this
      rw [put_before _ ht' this]; exact h.2.1 q (by omega)
  · rw [Nat.add_mul, Nat.one_mul, put_after _ hl ht' (Nat.le_refl _), ← List.drop_drop, h.2.2, List.drop_drop]

theorem Upto.blocks {n : Nat} {l W X : List α} {t : Nat} (h : Upto lt n l W X t) (ht : l.length ≤ t * n) : Blocks lt n l X := by
  refine ⟨h.1, fun q => ?_⟩
  by_cases e : q < t
  · exact h.2.1 q e
  · have : t * n ≤ q * n := Nat.mul_le_mul_right n (by omega)
    rw [seg_out _ _ (by omega), seg_out _ _ (by rw [h.1]; omega)]
    exact St.nil

/-- Two neighbour blocks merged. -/
theorem Blocks.pair {bs : Nat} {l W : List α} (h : Blocks lt bs l W) (t : Nat) {M : List α} (hM : St lt (seg W (t * (2 * bs)) bs ++ seg W (t * (2 * bs) + bs) bs) M) : St lt (seg l (t * (2 * bs)) (2 * bs)) M := by
  rw [seg_two]
  have e1 : t * (2 * bs) = 2 * t * bs := by rw [← Nat.mul_assoc, Nat.mul_comm t 2]
  have e2 : t * (2 * bs) + bs = (2 * t + 1) * bs := by rw [e1, Nat.add_mul, Nat.one_mul]
  refine St.over ?_ ?_ hM
  · rw [e1]; exact h.2 _
  · rw [e2]; exact h.2 _
theorem Blocks.single {bs : Nat} {l W : List α} (h : Blocks lt bs l W) (t : Nat) (hs : l.length ≤ t * (2 * bs) + bs) : St lt (seg l (t * (2 * bs)) (2 * bs)) (seg W (t * (2 * bs)) (2 * bs)) := by
  have e1 : t * (2 * bs) = 2 * t * bs := by rw [← Nat.mul_assoc, Nat.mul_comm t 2]
  rw [seg_two, seg_two, seg_out (l := l) (i := t * (2 * bs) + bs) _ hs, seg_out (l := W) (i := t * (2 * bs) + bs) _ (by rw [h.1]; exact hs), List.append_nil, List.append_nil, e1]
  exact h.2 _
theorem Blocks.whole {bs : Nat} {l W : List α} (h : Blocks lt bs l W) (hs : l.length ≤ bs) : St lt l W := by
  have := h.2 0
  rwa [Nat.zero_mul, seg_full _ hs, seg_full _ (by rw [h.1]; exact hs)] at this
theorem put_self (l : List α) (i n : Nat) : put l i n (seg l i n) = l := (parts l i n).symm

end StC
end Go.Proofs.Ytagibgphegoagaa
