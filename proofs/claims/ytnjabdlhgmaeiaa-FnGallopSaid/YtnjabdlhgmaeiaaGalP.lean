/- The galloping search, as a function, with its bounds. Nothing of the program. -/
import Derived.Test.YtnjabdlhgmaeiaaElem2
import Derived.Test.YtnjabdlhgmaeiaaList
namespace Go.Proofs.Ytnjabdlhgmaeiaa.Ga
open Go.Proofs.Ytnjabdlhgmaeiaa Go.Proofs.Ytnjabdlhgmaeiaa.El

/-- The binary search for the first element that is not less than x. -/
def gs (x : Int) (l : List Int) (lo hi c : Nat) : Nat × Nat :=
  if _h : lo < hi then
    if l.getD ((lo + hi) / 2) 0 < x then gs x l ((lo + hi) / 2 + 1) hi (c + 1) else gs x l lo ((lo + hi) / 2) (c + 1)
  else (lo, c)
termination_by hi - lo
decreasing_by all_goals omega

theorem gs_lt {x : Int} {l : List Int} {lo hi : Nat} (c : Nat) (h : lo < hi) (hx : l.getD ((lo + hi) / 2) 0 < x) : gs x l lo hi c = gs x l ((lo + hi) / 2 + 1) hi (c + 1) := by rw [gs, dif_pos h, if_pos hx]
theorem gs_ge {x : Int} {l : List Int} {lo hi : Nat} (c : Nat) (h : lo < hi) (hx : ¬ l.getD ((lo + hi) / 2) 0 < x) : gs x l lo hi c = gs x l lo ((lo + hi) / 2) (c + 1) := by rw [gs, dif_pos h, if_neg hx]
theorem gs_end {x : Int} {l : List Int} {lo hi : Nat} (c : Nat) (h : ¬ lo < hi) : gs x l lo hi c = (lo, c) := by rw [gs, dif_neg h]

/-- The steps above the hint: the two bounds and the comparisons. -/
def gup (x : Int) (l : List Int) (h step lo c : Nat) : Nat × Nat × Nat :=
  if _hh : h + step < l.length then
    if l.getD (h + step) 0 < x then gup x l h (2 * step + 1) (h + step + 1) (c + 1) else (lo, h + step, c + 1)
  else (lo, l.length, c)
termination_by l.length - step
decreasing_by all_goals omega

theorem gup_lt {x : Int} {l : List Int} {h step : Nat} (lo c : Nat) (hh : h + step < l.length) (hx : l.getD (h + step) 0 < x) : gup x l h step lo c = gup x l h (2 * step + 1) (h + step + 1) (c + 1) := by rw [gup, dif_pos hh, if_pos hx]
theorem gup_ge {x : Int} {l : List Int} {h step : Nat} (lo c : Nat) (hh : h + step < l.length) (hx : ¬ l.getD (h + step) 0 < x) : gup x l h step lo c = (lo, h + step, c + 1) := by rw [gup, dif_pos hh, if_neg hx]
theorem gup_end {x : Int} {l : List Int} {h step : Nat} (lo c : Nat) (hh : ¬ h + step < l.length) : gup x l h step lo c = (lo, l.length, c) := by rw [gup, dif_neg hh]

/-- The steps below the hint. -/
def gdn (x : Int) (l : List Int) (h step hi c : Nat) : Nat × Nat × Nat :=
  if _hh : step ≤ h then
    if l.getD (h - step) 0 < x then (h - step + 1, hi, c + 1) else gdn x l h (2 * step + 1) (h - step) (c + 1)
  else (0, hi, c)
termination_by h + 1 - step
decreasing_by all_goals omega

theorem gdn_lt {x : Int} {l : List Int} {h step : Nat} (hi c : Nat) (hh : step ≤ h) (hx : l.getD (h - step) 0 < x) : gdn x l h step hi c = (h - step + 1, hi, c + 1) := by rw [gdn, dif_pos hh, if_pos hx]
theorem gdn_ge {x : Int} {l : List Int} {h step : Nat} (hi c : Nat) (hh : step ≤ h) (hx : ¬ l.getD (h - step) 0 < x) : gdn x l h step hi c = gdn x l h (2 * step + 1) (h - step) (c + 1) := by rw [gdn, dif_pos hh, if_neg hx]
theorem gdn_end {x : Int} {l : List Int} {h step : Nat} (hi c : Nat) (hh : ¬ step ≤ h) : gdn x l h step hi c = (0, hi, c) := by rw [gdn, dif_neg hh]

/-- The bounds of the search, and the search. -/
def bnd (x : Int) (l : List Int) (h : Nat) : Nat × Nat × Nat := if l.getD h 0 < x then gup x l h 1 (h + 1) 1 else gdn x l h 1 h 1
def galF (x : Int) (l : List Int) (h : Nat) : Nat × Nat := gs x l (bnd x l h).1 (bnd x l h).2.1 (bnd x l h).2.2

theorem gup_bd (x : Int) (l : List Int) (h : Nat) : ∀ (n step lo c : Nat), l.length - (h + step) ≤ n → lo ≤ h + step → lo ≤ l.length →
    (gup x l h step lo c).1 ≤ (gup x l h step lo c).2.1 ∧ (gup x l h step lo c).2.1 ≤ l.length ∧ c ≤ (gup x l h step lo c).2.2 ∧ (gup x l h step lo c).2.2 ≤ c + (l.length - (h + step)) := by
  intro n
  induction n with
  | zero =>
    intro step lo c hn h1 h2
    rw [gup_end lo c (by omega)]
    exact ⟨h2, Nat.le_refl _, Nat.le_refl _, by simp only; omega⟩
  | succ n ih =>
    intro step lo c hn h1 h2
    by_cases hh : h + step < l.length
    · by_cases hx : l.getD (h + step) 0 < x
      · rw [gup_lt lo c hh hx]
        have := ih (2 * step + 1) (h + step + 1) (c + 1) (by omega) (by omega) (by omega)
        omega
      · rw [gup_ge lo c hh hx]
        exact ⟨h1, by simp only; omega, by simp only; omega, by simp only; omega⟩
    · rw [gup_end lo c hh]
      exact ⟨h2, Nat.le_refl _, Nat.le_refl _, by simp only; omega⟩

theorem gdn_bd (x : Int) (l : List Int) (h : Nat) : ∀ (n step hi c : Nat), h + 1 - step ≤ n → h < hi + step → hi ≤ h →
    (gdn x l h step hi c).1 ≤ (gdn x l h step hi c).2.1 ∧ (gdn x l h step hi c).2.1 ≤ h ∧ c ≤ (gdn x l h step hi c).2.2 ∧ (gdn x l h step hi c).2.2 ≤ c + (h + 1 - step) := by
  intro n
  induction n with
  | zero =>
    intro step hi c hn h1 h2
    rw [gdn_end hi c (by omega)]
    exact ⟨Nat.zero_le _, h2, Nat.le_refl _, by simp only; omega⟩
  | succ n ih =>
    intro step hi c hn h1 h2
    by_cases hh : step ≤ h
    · by_cases hx : l.getD (h - step) 0 < x
      · rw [gdn_lt hi c hh hx]
        exact ⟨by simp only; omega, h2, by simp only; omega, by simp only; omega⟩
      · rw [gdn_ge hi c hh hx]
        have := ih (2 * step + 1) (h - step) (c + 1) (by omega) (by omega) (by omega)
        omega
    · rw [gdn_end hi c hh]
      exact ⟨Nat.zero_le _, h2, Nat.le_refl _, by simp only; omega⟩

theorem bnd_bd {x : Int} {l : List Int} {h : Nat} (hh : h < l.length) : (bnd x l h).1 ≤ (bnd x l h).2.1 ∧ (bnd x l h).2.1 ≤ l.length ∧ 1 ≤ (bnd x l h).2.2 ∧ (bnd x l h).2.2 ≤ 1 + l.length := by
  unfold bnd
  by_cases hx : l.getD h 0 < x
  · rw [if_pos hx]
    have := gup_bd x l h _ 1 (h + 1) 1 (Nat.le_refl _) (by omega) (by omega)
    omega
  · rw [if_neg hx]
    have := gdn_bd x l h _ 1 h 1 (Nat.le_refl _) (by omega) (by omega)
    omega

/-- In an ascending list: n is the number of elements less than x. -/
def Parts (x : Int) (l : List Int) (n : Nat) : Prop := n ≤ l.length ∧ ∀ i, i < l.length → (l.getD i 0 < x ↔ i < n)

theorem gs_main {x : Int} {l : List Int} {n : Nat} (hP : Parts x l n) : ∀ (j lo hi c : Nat), hi - lo < 2 ^ j → lo ≤ n → n ≤ hi → hi ≤ l.length →
    (gs x l lo hi c).1 = n ∧ c ≤ (gs x l lo hi c).2 ∧ (gs x l lo hi c).2 ≤ c + j := by
  intro j
  induction j with
  | zero =>
    intro lo hi c h1 h2 h3 h4
    simp at h1
    rw [gs_end c (by omega)]
    exact ⟨by simp only; omega, Nat.le_refl _, Nat.le_refl _⟩
  | succ j ih =>
    intro lo hi c h1 h2 h3 h4
    rw [Nat.pow_succ] at h1
    by_cases h : lo < hi
    · have hm := hP.2 ((lo + hi) / 2) (by omega)
      by_cases hx : l.getD ((lo + hi) / 2) 0 < x
      · rw [gs_lt c h hx]
        have := ih ((lo + hi) / 2 + 1) hi (c + 1) (by omega) (hm.1 hx) h3 h4
        omega
      · rw [gs_ge c h hx]
        have hn : ¬ (lo + hi) / 2 < n := fun hc => hx (hm.2 hc)
        have := ih lo ((lo + hi) / 2) (c + 1) (by omega) h2 (by omega) (by omega)
        omega
    · rw [gs_end c h]
      exact ⟨by simp only; omega, Nat.le_refl _, by simp only; omega⟩

/-- What the steps reach: j is the number of comparisons that the search still needs at most. -/
def Reach (n : Nat) (len : Nat) (r : Nat × Nat × Nat) : Prop := r.1 ≤ n ∧ n ≤ r.2.1 ∧ r.2.1 ≤ len ∧ 1 ≤ r.2.2 ∧ ∃ j, r.2.1 - r.1 < 2 ^ j ∧ r.2.2 + j ≤ 14

theorem pow_small {k : Nat} (h : 2 ^ k ≤ 64) : k ≤ 6 := by
  apply Classical.byContradiction
  intro hc
  have := Nat.pow_le_pow_right (n := 2) (by omega) (show 7 ≤ k by omega)
  rw [show (2 : Nat) ^ 7 = 128 from rfl] at this
  omega

theorem gup_main {x : Int} {l : List Int} {n : Nat} (hP : Parts x l n) (h64 : l.length ≤ 64) (h : Nat) : ∀ (m k step lo : Nat), l.length - (h + step) ≤ m → step + 1 = 2 ^ (k + 1) → lo = h + 2 ^ k → lo ≤ n → lo ≤ l.length →
    Reach n l.length (gup x l h step lo (k + 1)) := by
  intro m
  induction m with
  | zero =>
    intro k step lo hm hs hl hn hle
    have hk : k ≤ 6 := pow_small (by omega)
    rw [Nat.pow_succ] at hs
    rw [gup_end lo _ (by omega)]
    exact ⟨hn, hP.1, Nat.le_refl _, by simp only; omega, k, by simp only; omega, by simp only; omega⟩
  | succ m ih =>
    intro k step lo hm hs hl hn hle
    have hk : k ≤ 6 := pow_small (by omega)
    have hs' := hs
    rw [Nat.pow_succ] at hs
    by_cases hh : h + step < l.length
    · have hi := hP.2 (h + step) hh
      by_cases hx : l.getD (h + step) 0 < x
      · rw [gup_lt lo _ hh hx]
        have hlt := hi.1 hx
        exact ih (k + 1) (2 * step + 1) (h + step + 1) (by omega) (by rw [Nat.pow_succ]; omega) (by omega) (by omega) (by omega)
      · rw [gup_ge lo _ hh hx]
        have hk5 : k + 1 ≤ 6 := pow_small (by omega)
        have hge : ¬ h + step < n := fun hc => hx (hi.2 hc)
        exact ⟨hn, by simp only; omega, by simp only; omega, by simp only; omega, k, by simp only; omega, by simp only; omega⟩
    · rw [gup_end lo _ hh]
      exact ⟨hn, hP.1, Nat.le_refl _, by simp only; omega, k, by simp only; omega, by simp only; omega⟩

theorem gdn_main {x : Int} {l : List Int} {n : Nat} (hP : Parts x l n) (h64 : l.length ≤ 64) (h : Nat) (hh0 : h < l.length) : ∀ (m k step hi : Nat), h + 1 - step ≤ m → step + 1 = 2 ^ (k + 1) → hi + 2 ^ k = h + 1 → n ≤ hi →
    Reach n l.length (gdn x l h step hi (k + 1)) := by
  intro m
  induction m with
  | zero =>
    intro k step hi hm hs hl hn
    have hk : k ≤ 6 := pow_small (by omega)
    rw [Nat.pow_succ] at hs
    rw [gdn_end hi _ (by omega)]
    exact ⟨Nat.zero_le _, hn, by simp only; omega, by simp only; omega, k, by simp only; omega, by simp only; omega⟩
  | succ m ih =>
    intro k step hi hm hs hl hn
    have hk : k ≤ 6 := pow_small (by omega)
    have hs' := hs
    rw [Nat.pow_succ] at hs
    by_cases hh : step ≤ h
    · have hi' := hP.2 (h - step) (by omega)
      by_cases hx : l.getD (h - step) 0 < x
      · rw [gdn_lt hi _ hh hx]
        have hlt := hi'.1 hx
        have hk5 : k + 1 ≤ 6 := pow_small (by omega)
        exact ⟨by simp only; omega, hn, by simp only; omega, by simp only; omega, k, by simp only; omega, by simp only; omega⟩
      · rw [gdn_ge hi _ hh hx]
        have hge : ¬ h - step < n := fun hc => hx (hi'.2 hc)
        exact ih (k + 1) (2 * step + 1) (h - step) (by omega) (by rw [Nat.pow_succ]; omega) (by omega) (by omega)
    · rw [gdn_end hi _ hh]
      exact ⟨Nat.zero_le _, hn, by simp only; omega, by simp only; omega, k, by simp only; omega, by simp only; omega⟩

theorem bnd_main {x : Int} {l : List Int} {n h : Nat} (hP : Parts x l n) (h64 : l.length ≤ 64) (hh : h < l.length) : Reach n l.length (bnd x l h) := by
  unfold bnd
  have hi := hP.2 h hh
  by_cases hx : l.getD h 0 < x
  · rw [if_pos hx]
    have hlt := hi.1 hx
    exact gup_main hP h64 h _ 0 1 (h + 1) (Nat.le_refl _) rfl rfl (by omega) (by omega)
  · rw [if_neg hx]
    have hge : ¬ h < n := fun hc => hx (hi.2 hc)
    exact gdn_main hP h64 h hh _ 0 1 h (Nat.le_refl _) rfl (by simp) (by omega)

theorem galF_main {x : Int} {l : List Int} {n h : Nat} (hP : Parts x l n) (h64 : l.length ≤ 64) (hh : h < l.length) : (galF x l h).1 = n ∧ 1 ≤ (galF x l h).2 ∧ (galF x l h).2 ≤ 14 := by
  obtain ⟨h1, h2, h3, h4, j, h5, h6⟩ := bnd_main (x := x) (h := h) hP h64 hh
  have := gs_main hP j _ _ (bnd x l h).2.2 h5 h1 h2 h3
  unfold galF
  omega

/-- The number of elements less than x, in an ascending list. -/
def cnt (x : Int) (l : List Int) : Nat := l.countP (fun y => decide (y < x))
theorem parts_cnt (x : Int) : ∀ l : List Int, Asc l → Parts x l (cnt x l)
  | [], _ => ⟨Nat.le_refl _, fun i hi => by simp at hi⟩
  | y :: l, h => by
    obtain ⟨h1, h2⟩ := List.pairwise_cons.1 h
    obtain ⟨i1, i2⟩ := parts_cnt x l h2
    unfold cnt at i1 i2 ⊢
    by_cases hy : y < x
    · rw [List.countP_cons_of_pos (by simpa using hy)]
      refine ⟨by simp; omega, fun i hi => ?_⟩
      cases i with
      | zero => simp; exact hy
      | succ i => have := i2 i (by simp at hi; omega); simp only [List.getD_cons_succ]; omega
    · rw [List.countP_cons_of_neg (by simpa using hy)]
      have h0 : List.countP (fun y => decide (y < x)) l = 0 := by
        rw [List.countP_eq_zero]
        intro z hz
        have := h1 z hz
        simp; omega
      rw [h0]
      refine ⟨Nat.zero_le _, fun i hi => ?_⟩
      cases i with
      | zero => simp; omega
      | succ i =>
        have := i2 i (by simp at hi; omega)
        rw [h0] at this
        simp only [List.getD_cons_succ]; omega

/-- What GallopSearch takes. -/
def OkGal (l : List Int) (x h : Int) : Prop := OkL l ∧ descF l = -1 ∧ (-100000 ≤ x ∧ x ≤ 100000) ∧ 0 ≤ h ∧ h < l.length
instance (l : List Int) (x h : Int) : Decidable (OkGal l x h) := by unfold OkGal; exact inferInstance
def galAll (l : List Int) (x h : Int) : Int × Int × Bool := if OkGal l x h then ((((galF x l h.toNat).1 : Nat) : Int), (((galF x l h.toNat).2 : Nat) : Int), true) else (0, 0, false)
theorem galAll_yes {l : List Int} {x h : Int} (ho : OkGal l x h) : galAll l x h = ((((galF x l h.toNat).1 : Nat) : Int), (((galF x l h.toNat).2 : Nat) : Int), true) := if_pos ho
theorem galAll_no {l : List Int} {x h : Int} (ho : ¬ OkGal l x h) : galAll l x h = (0, 0, false) := if_neg ho
theorem asc_descF {l : List Int} (h : descF l = -1) : Asc l := by
  rcases descF_spec l with ⟨_, h'⟩ | ⟨a, h', _⟩
  · exact h'
  · omega

end Go.Proofs.Ytnjabdlhgmaeiaa.Ga
