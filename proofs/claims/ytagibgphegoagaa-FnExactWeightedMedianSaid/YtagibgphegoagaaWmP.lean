/- A weighted median, pure. Nothing of the program. -/
import Derived.Test.YtagibgphegoagaaPsP
namespace Go.Proofs.Ytagibgphegoagaa
open P El Qk
set_option linter.unusedVariables false
namespace Sl

/-- The weight of the elements not greater than x, among the first k. -/
def wle (l ws : List Int) (x : Int) : Nat → Int
  | 0 => 0
  | k + 1 => wle l ws x k + if l.getD k 0 ≤ x then ws.getD k 0 else 0
/-- The sum of the first k weights. -/
def wsum (ws : List Int) : Nat → Int
  | 0 => 0
  | k + 1 => wsum ws k + ws.getD k 0
/-- The weights in the order of the elements: those of the first k. -/
def wcum (ws P : List Int) : Nat → Int
  | 0 => 0
  | k + 1 => wcum ws P k + ws.getD (P.getD k 0).toNat 0
def OkW (l ws : List Int) : Prop := OkL l ∧ 0 < l.length ∧ ws.length = l.length ∧ ∀ x ∈ ws, 1 ≤ x ∧ x ≤ 1000
instance (l ws : List Int) : Decidable (OkW l ws) := by unfold OkW; exact inferInstance

theorem wget {ws : List Int} (h : ∀ x ∈ ws, 1 ≤ x ∧ x ≤ 1000) (k : Nat) : 0 ≤ ws.getD k 0 ∧ ws.getD k 0 ≤ 1000 := by
  by_cases hk : k < ws.length
  · have := at_getD hk
    have := h _ (List.mem_of_getElem? this); omega
  · rw [List.getD_eq_getElem?_getD, List.getElem?_eq_none (by omega)]; simp
theorem wsum_b {ws : List Int} (h : ∀ x ∈ ws, 1 ≤ x ∧ x ≤ 1000) : ∀ k : Nat, 0 ≤ wsum ws k ∧ wsum ws k ≤ 1000 * k
  | 0 => ⟨Int.le_refl _, by simp [wsum]⟩
  | k + 1 => by
    have := wsum_b h k; have := wget h k
    rw [wsum]; omega
theorem wle_b {l ws : List Int} (h : ∀ x ∈ ws, 1 ≤ x ∧ x ≤ 1000) (x : Int) : ∀ k : Nat, 0 ≤ wle l ws x k ∧ wle l ws x k ≤ 1000 * k
  | 0 => ⟨Int.le_refl _, by simp [wle]⟩
  | k + 1 => by
    have := wle_b (l := l) h x k; have := wget h k
    rw [wle]; split <;> omega
theorem wcum_b {ws : List Int} (P : List Int) (h : ∀ x ∈ ws, 1 ≤ x ∧ x ≤ 1000) : ∀ k : Nat, 0 ≤ wcum ws P k ∧ wcum ws P k ≤ 1000 * k
  | 0 => ⟨Int.le_refl _, by simp [wcum]⟩
  | k + 1 => by
    have := wcum_b P h k; have := wget h (P.getD k 0).toNat
    rw [wcum]; omega

/-- As sums of filtered lists of indices. -/
def wof (ws I : List Int) : Int := (I.map fun i => ws.getD i.toNat 0).sum
theorem wof_append (ws a b : List Int) : wof ws (a ++ b) = wof ws a + wof ws b := by unfold wof; rw [List.map_append, List.sum_append]
theorem wof_perm {ws a b : List Int} (h : a.Perm b) : wof ws a = wof ws b := by
  unfold wof
  induction h with
  | nil => rfl
  | cons x _ ih => simp only [List.map_cons, List.sum_cons, ih]
  | swap x y l => simp only [List.map_cons, List.sum_cons]; omega
  | trans _ _ h1 h2 => exact h1.trans h2
theorem wof_nonneg {ws : List Int} (h : ∀ x ∈ ws, 1 ≤ x ∧ x ≤ 1000) : ∀ I : List Int, 0 ≤ wof ws I
  | [] => Int.le_refl _
  | i :: I => by
    have := wof_nonneg h I; have := wget h i.toNat
    unfold wof at *; simp only [List.map_cons, List.sum_cons]; omega
theorem wle_of (l ws : List Int) (x : Int) : ∀ k, wle l ws x k = wof ws ((iota k).filter fun i => decide (keyOf l i ≤ x))
  | 0 => by simp [wle, wof, iota]
  | k + 1 => by
    rw [wle, wle_of l ws x k, iota_succ, List.filter_append, wof_append]
    congr 1
    have e : keyOf l (k : Int) = l.getD k 0 := by unfold keyOf; rw [Int.toNat_natCast]
    by_cases h : l.getD k 0 ≤ x
    · rw [if_pos h, List.filter_cons, if_pos (by rw [e]; simpa using h)]; simp [wof]
    · rw [if_neg h, List.filter_cons, if_neg (by rw [e]; simpa using h)]; simp [wof]
theorem wsum_of (ws : List Int) : ∀ k, wsum ws k = wof ws (iota k)
  | 0 => by simp [wsum, wof, iota]
  | k + 1 => by rw [wsum, wsum_of ws k, iota_succ, wof_append]; simp [wof]
theorem wcum_of (ws P : List Int) : ∀ k, k ≤ P.length → wcum ws P k = wof ws (P.take k)
  | 0, _ => by simp [wcum, wof]
  | k + 1, h => by
    rw [wcum, wcum_of ws P k (by omega), List.take_add_one, List.getElem?_eq_getElem (by omega), wof_append]
    have : P.getD k 0 = P[k] := by rw [List.getD_eq_getElem?_getD, List.getElem?_eq_getElem (by omega)]; rfl
    rw [this]; simp [wof]

/-- All weights, in whatever order. -/
theorem wcum_all (l ws : List Int) (hw : ws.length = l.length) : wcum ws (sortTo l l.length) l.length = wsum ws ws.length := by
  rw [wcum_of _ _ _ (by rw [sortTo_length]; exact Nat.le_refl _), wsum_of, hw]
  have := sortTo_length l l.length
  rw [List.take_of_length_le (by omega)]
  exact wof_perm (sortTo_perm l l.length)

/-- The element at a place of the sorting permutation. -/
theorem pick_at {l : List Int} {k : Nat} (h : k < l.length) : l.getD ((sortTo l l.length).getD k 0).toNat 0 = (srt l).getD k 0 := by
  rw [← pick_sorted l]
  exact (pickAt_getD (by rw [sortTo_length]; exact h)).symm

theorem key_take {l : List Int} {k : Nat} {x : Int} (hk : k ≤ l.length) (hx : ∀ j, j < k → (srt l).getD j 0 ≤ x) : ∀ i ∈ (sortTo l l.length).take k, keyOf l i ≤ x := by
  intro i hi
  obtain ⟨j, hj, rfl⟩ := List.getElem_of_mem hi
  have hj2 : j < k := by simp at hj; omega
  rw [List.getElem_take]
  have := hx j hj2
  rw [← pick_at (by omega), List.getD_eq_getElem?_getD (l := sortTo l l.length), List.getElem?_eq_getElem (by rw [sortTo_length]; omega)] at this
  exact this

/-- The weight up to an element is that of a front of the sorting permutation. -/
theorem wle_ge {l ws : List Int} (h : ∀ x ∈ ws, 1 ≤ x ∧ x ≤ 1000) {k : Nat} {x : Int} (hk : k ≤ l.length) (hx : ∀ j, j < k → (srt l).getD j 0 ≤ x) : wcum ws (sortTo l l.length) k ≤ wle l ws x l.length := by
  rw [wle_of, wcum_of _ _ _ (by rw [sortTo_length]; exact hk)]
  have hp := (sortTo_perm l l.length).filter (fun i => decide (keyOf l i ≤ x))
  rw [← wof_perm hp]
  conv => rhs; rw [← List.take_append_drop k (sortTo l l.length)]
  rw [List.filter_append, wof_append, List.filter_eq_self.2 (fun i hi => by simpa using key_take hk hx i hi)]
  have := wof_nonneg h ((List.drop k (sortTo l l.length)).filter (fun i => decide (keyOf l i ≤ x)))
  omega
theorem wle_le {l ws : List Int} (h : ∀ x ∈ ws, 1 ≤ x ∧ x ≤ 1000) {k : Nat} {x : Int} (hk : k ≤ l.length) (hx : ∀ j, k ≤ j → j < l.length → x < (srt l).getD j 0) : wle l ws x l.length ≤ wcum ws (sortTo l l.length) k := by
  rw [wle_of, wcum_of _ _ _ (by rw [sortTo_length]; exact hk)]
  have hp := (sortTo_perm l l.length).filter (fun i => decide (keyOf l i ≤ x))
  rw [← wof_perm hp]
  conv => lhs; rw [← List.take_append_drop k (sortTo l l.length)]
  rw [List.filter_append, wof_append]
  have h0 : ((List.drop k (sortTo l l.length)).filter (fun i => decide (keyOf l i ≤ x))) = [] := by
    rw [List.filter_eq_nil_iff]
    intro i hi
    obtain ⟨j, hj, rfl⟩ := List.getElem_of_mem hi
    rw [List.getElem_drop]
    have hl := sortTo_length l l.length
    have hj2 : k + j < l.length := by simp at hj; omega
    have := hx (k + j) (by omega) hj2
    rw [← pick_at hj2, List.getD_eq_getElem?_getD (l := sortTo l l.length), List.getElem?_eq_getElem (by omega)] at this
    simp only [decide_eq_true_eq]
    unfold keyOf
    have h3 : l.getD ((sortTo l l.length)[k + j]).toNat 0 = l.getD (some ((sortTo l l.length)[k + j])|>.getD 0).toNat 0 := rfl
    simp only [Option.getD_some] at this
    omega
  have h1 : ∀ I : List Int, wof ws (I.filter (fun i => decide (keyOf l i ≤ x))) ≤ wof ws I := by
    intro I
    induction I with
    | nil => exact Int.le_refl _
    | cons i I ih =>
      have := wget h i.toNat
      rw [List.filter_cons]
      split
      · unfold wof at *; simp only [List.map_cons, List.sum_cons]; omega
      · unfold wof at *; simp only [List.map_cons, List.sum_cons]; omega
  have h2 := h1 (List.take k (sortTo l l.length))
  have h4 : wof ws [] = 0 := rfl
  rw [h0, h4]; omega

/-- The first place at which half of the weight is reached. -/
def wat (ws P : List Int) (T : Int) : Nat → Nat → Nat
  | 0, k => k
  | n + 1, k => if 2 * wcum ws P (k + 1) < T then wat ws P T n (k + 1) else k
/-- The weighted median: the first element of the sorted list whose weight is enough. -/
def wm (l ws : List Int) (T : Int) : Nat → Nat → Int
  | 0, i => 0
  | n + 1, i => if T ≤ 2 * wle l ws ((srt l).getD i 0) l.length then (srt l).getD i 0 else wm l ws T n (i + 1)
def wmAll (l ws : List Int) : Int × Bool := if OkW l ws then (wm l ws (wsum ws ws.length) l.length 0, true) else (0, false)
theorem wmAll_yes {l ws : List Int} (h : OkW l ws) : wmAll l ws = (wm l ws (wsum ws ws.length) l.length 0, true) := if_pos h
theorem wmAll_no {l ws : List Int} (h : ¬ OkW l ws) : wmAll l ws = (0, false) := if_neg h

theorem wm_spec {l ws : List Int} {T : Int} : ∀ (n i : Nat), i + n = l.length → (∃ j, i ≤ j ∧ j < l.length ∧ T ≤ 2 * wle l ws ((srt l).getD j 0) l.length) →
    ∃ j, i ≤ j ∧ j < l.length ∧ wm l ws T n i = (srt l).getD j 0 ∧ T ≤ 2 * wle l ws ((srt l).getD j 0) l.length ∧ ∀ m, i ≤ m → m < j → ¬ T ≤ 2 * wle l ws ((srt l).getD m 0) l.length
  | 0, i, h, ⟨j, h1, h2, _⟩ => by omega
  | n + 1, i, h, ⟨j, h1, h2, h3⟩ => by
    rw [wm]
    split
    · rename_i hc
      exact ⟨i, Nat.le_refl _, by omega, rfl, hc, fun m a b => by omega⟩
    · rename_i hc
      obtain ⟨j', a1, a2, a3, a4, a5⟩ := wm_spec n (i + 1) (by omega) ⟨j, by
        rcases Nat.lt_or_ge i j with h | h
        · exact h
        · exact absurd (by rw [show i = j by omega]; exact h3) hc, h2, h3⟩
      exact ⟨j', by omega, a2, a3, a4, fun m b1 b2 => by
        rcases Nat.lt_or_ge i m with h | h
        · exact a5 m h b2
        · rw [show m = i by omega]; exact hc⟩

/-- What the program's walk comes to: at the first place at which half of the weight is reached stands the weighted median. -/
theorem wm_at {l ws : List Int} (h : OkW l ws) {k : Nat} (hk : k < l.length) (h1 : ¬ 2 * wcum ws (sortTo l l.length) (k + 1) < wsum ws ws.length) (h2 : ∀ j, j < k → 2 * wcum ws (sortTo l l.length) (j + 1) < wsum ws ws.length) :
    (wmAll l ws).1 = (srt l).getD k 0 := by
  have hw := h.2.2.2
  have hasc := srt_asc l
  have hsl := srt_length l
  have hge : wsum ws ws.length ≤ 2 * wle l ws ((srt l).getD k 0) l.length := by
    have := wle_ge (l := l) hw (k := k + 1) (x := (srt l).getD k 0) (by omega) (fun j hj => by
      rcases Nat.lt_or_ge j k with hjk | hjk
      · exact asc_at hasc hjk (by omega)
      · rw [show j = k by omega]; exact Int.le_refl _)
    omega
  rw [wmAll_yes h]
  obtain ⟨j, a1, a2, a3, a4, a5⟩ := wm_spec (l := l) (ws := ws) (T := wsum ws ws.length) l.length 0 (by omega) ⟨k, by omega, hk, hge⟩
  show wm l ws _ l.length 0 = _
  rw [a3]
  -- the first enough stands no later, and is no smaller
  have hjk : j ≤ k := by
    rcases Nat.lt_or_ge k j with h3 | h3
    · exact absurd hge (a5 k (by omega) h3)
    · exact h3
  have hle : (srt l).getD j 0 ≤ (srt l).getD k 0 := by
    rcases Nat.lt_or_ge j k with h3 | h3
    · exact asc_at hasc h3 (by omega)
    · rw [show j = k by omega]; exact Int.le_refl _
  by_cases hlt : (srt l).getD j 0 < (srt l).getD k 0
  · exfalso
    -- the elements up to x lie ahead of place k
    have hk0 : 0 < k := by
      rcases Nat.lt_or_ge j k with h3 | h3
      · omega
      · rw [show j = k by omega] at hlt; omega
    have := wle_le (l := l) hw (k := k) (x := (srt l).getD j 0) (by omega) (fun m hm hm2 => by
      rcases Nat.lt_or_ge k m with h3 | h3
      · have := asc_at hasc h3 (by omega); omega
      · rw [show m = k by omega]; exact hlt)
    have h3 := h2 (k - 1) (by omega)
    rw [show k - 1 + 1 = k by omega] at h3
    omega
  · omega

end Sl
end Go.Proofs.Ytagibgphegoagaa
