/- The elementary sorts with their counts, pure. Nothing of the program. -/
import Derived.Test.YthmcjmjkmmbepaaPerm
namespace Go.Proofs.Ythmcjmjkmmbepaa
set_option linter.unusedVariables false
namespace El
open P

/-- The shifts of one insertion: from place k, by steps of g; the list, the place, the comparisons, the moves. -/
def sh (x : Int) (g : Nat) (L : List Int) (k c m : Nat) : List Int × Nat × Nat × Nat :=
  if h : 0 < g ∧ g ≤ k then
    if x < L.getD (k - g) 0 then sh x g (L.set k (L.getD (k - g) 0)) (k - g) (c + 1) (m + 1) else (L, k, c + 1, m)
  else (L, k, c, m)
termination_by k
decreasing_by omega

theorem sh_go {x : Int} {g k : Nat} {L : List Int} (c m : Nat) (h0 : 0 < g) (h : g ≤ k) (hx : x < L.getD (k - g) 0) : sh x g L k c m = sh x g (L.set k (L.getD (k - g) 0)) (k - g) (c + 1) (m + 1) := by
  rw [sh, dif_pos ⟨h0, h⟩, if_pos hx]
theorem sh_stop {x : Int} {g k : Nat} {L : List Int} (c m : Nat) (h0 : 0 < g) (h : g ≤ k) (hx : ¬ x < L.getD (k - g) 0) : sh x g L k c m = (L, k, c + 1, m) := by
  rw [sh, dif_pos ⟨h0, h⟩, if_neg hx]
theorem sh_end {x : Int} {g k : Nat} {L : List Int} (c m : Nat) (h : k < g) : sh x g L k c m = (L, k, c, m) := by
  rw [sh, dif_neg (by omega)]

/-- What holds of the shifts, by induction. -/
theorem sh_ind {x : Int} {g : Nat} {F : List Int → Nat → Nat → Nat → Prop} (hgo : ∀ L k c m, 0 < g → g ≤ k → x < L.getD (k - g) 0 → F L k c m → F (L.set k (L.getD (k - g) 0)) (k - g) (c + 1) (m + 1)) (hstop : ∀ L k c m, 0 < g → g ≤ k → ¬ x < L.getD (k - g) 0 → F L k c m → F L k (c + 1) m) :
    ∀ (n : Nat) (L : List Int) (k c m : Nat), k ≤ n → F L k c m → F (sh x g L k c m).1 (sh x g L k c m).2.1 (sh x g L k c m).2.2.1 (sh x g L k c m).2.2.2 := by
  intro n
  induction n with
  | zero =>
    intro L k c m hk h
    by_cases hg : 0 < g
    · rw [sh_end c m (by omega)]; exact h
    · rw [sh, dif_neg (by omega)]; exact h
  | succ n ih =>
    intro L k c m hk h
    by_cases hg : 0 < g ∧ g ≤ k
    · by_cases hx : x < L.getD (k - g) 0
      · rw [sh_go c m hg.1 hg.2 hx]; exact ih _ _ _ _ (by omega) (hgo L k c m hg.1 hg.2 hx h)
      · rw [sh_stop c m hg.1 hg.2 hx]; exact hstop L k c m hg.1 hg.2 hx h
    · rw [sh, dif_neg hg]; exact h

/-- The same with another word at the end. -/
theorem sh_ind2 {x : Int} {g : Nat} {F G : List Int → Nat → Nat → Nat → Prop} (hgo : ∀ L k c m, 0 < g → g ≤ k → x < L.getD (k - g) 0 → F L k c m → F (L.set k (L.getD (k - g) 0)) (k - g) (c + 1) (m + 1)) (hstop : ∀ L k c m, 0 < g → g ≤ k → ¬ x < L.getD (k - g) 0 → F L k c m → G L k (c + 1) m) (hend : ∀ L k c m, F L k c m → G L k c m) :
    ∀ (n : Nat) (L : List Int) (k c m : Nat), k ≤ n → F L k c m → G (sh x g L k c m).1 (sh x g L k c m).2.1 (sh x g L k c m).2.2.1 (sh x g L k c m).2.2.2 := by
  intro n
  induction n with
  | zero =>
    intro L k c m hk h
    by_cases hg : 0 < g
    · rw [sh_end c m (by omega)]; exact hend _ _ _ _ h
    · rw [sh, dif_neg (by omega)]; exact hend _ _ _ _ h
  | succ n ih =>
    intro L k c m hk h
    by_cases hg : 0 < g ∧ g ≤ k
    · by_cases hx : x < L.getD (k - g) 0
      · rw [sh_go c m hg.1 hg.2 hx]; exact ih _ _ _ _ (by omega) (hgo L k c m hg.1 hg.2 hx h)
      · rw [sh_stop c m hg.1 hg.2 hx]; exact hstop L k c m hg.1 hg.2 hx h
    · rw [sh, dif_neg hg]; exact hend _ _ _ _ h

theorem sh_length (x : Int) (g : Nat) (L : List Int) (k c m : Nat) : (sh x g L k c m).1.length = L.length :=
  sh_ind (F := fun M _ _ _ => M.length = L.length) (fun M _ _ _ _ _ _ h => by rw [List.length_set]; exact h) (fun _ _ _ _ _ _ _ h => h) k L k c m (Nat.le_refl _) rfl
theorem sh_bounds (x : Int) (g : Nat) (L : List Int) (k c m : Nat) : (sh x g L k c m).2.1 ≤ k ∧ c ≤ (sh x g L k c m).2.2.1 ∧ (sh x g L k c m).2.2.1 ≤ c + k ∧ m ≤ (sh x g L k c m).2.2.2 ∧ (sh x g L k c m).2.2.2 + (sh x g L k c m).2.1 ≤ m + k := by
  exact sh_ind2 (x := x) (g := g) (F := fun _ j c' m' => j ≤ k ∧ c ≤ c' ∧ c' + j ≤ c + k ∧ m ≤ m' ∧ m' + j ≤ m + k) (G := fun _ j c' m' => j ≤ k ∧ c ≤ c' ∧ c' ≤ c + k ∧ m ≤ m' ∧ m' + j ≤ m + k)
    (fun M j c' m' h0 h1 _ hh => by omega) (fun M j c' m' h0 h1 _ hh => by omega) (fun M j c' m' hh => by omega) k L k c m (Nat.le_refl _) (by omega)
/-- The counts start where they start. -/
theorem sh_from (x : Int) (g : Nat) : ∀ (n : Nat) (L : List Int) (k c m : Nat), k ≤ n → sh x g L k c m = ((sh x g L k 0 0).1, (sh x g L k 0 0).2.1, c + (sh x g L k 0 0).2.2.1, m + (sh x g L k 0 0).2.2.2) := by
  intro n
  induction n with
  | zero =>
    intro L k c m hk
    by_cases hg : 0 < g
    · rw [sh_end c m (by omega), sh_end 0 0 (by omega)]; rfl
    · rw [sh, dif_neg (by omega), sh, dif_neg (by omega)]; rfl
  | succ n ih =>
    intro L k c m hk
    by_cases hg : 0 < g ∧ g ≤ k
    · by_cases hx : x < L.getD (k - g) 0
      · rw [sh_go c m hg.1 hg.2 hx, sh_go 0 0 hg.1 hg.2 hx, ih _ _ (c + 1) (m + 1) (by omega), ih _ _ (0 + 1) (0 + 1) (by omega)]
        simp only [Prod.mk.injEq, true_and]
        omega
      · rw [sh_stop c m hg.1 hg.2 hx, sh_stop 0 0 hg.1 hg.2 hx]; simp
    · rw [sh, dif_neg hg, sh, dif_neg hg]; simp

/-- A list, its comparisons and its moves. -/
abbrev St3 := List Int × Nat × Nat
def insAt (g i : Nat) (S : St3) : St3 :=
  let r := sh (S.1.getD i 0) g S.1 i S.2.1 S.2.2
  if r.2.1 = i then (r.1, r.2.2.1, r.2.2.2) else (r.1.set r.2.1 (S.1.getD i 0), r.2.2.1, r.2.2.2 + 1)
theorem insAt_of {g i : Nat} {S : St3} {M : List Int} {j c m : Nat} (h : sh (S.1.getD i 0) g S.1 i S.2.1 S.2.2 = (M, j, c, m)) : insAt g i S = if j = i then (M, c, m) else (M.set j (S.1.getD i 0), c, m + 1) := by
  unfold insAt; rw [h]
theorem insAt_length (g i : Nat) (S : St3) : (insAt g i S).1.length = S.1.length := by
  have h := sh_length (S.1.getD i 0) g S.1 i S.2.1 S.2.2
  generalize hr : sh (S.1.getD i 0) g S.1 i S.2.1 S.2.2 = r at h
  obtain ⟨M, j, c, m⟩ := r
  rw [insAt_of hr]
  split
  · exact h
  · simp only [List.length_set]; exact h
theorem insAt_bounds (g i : Nat) (S : St3) : S.2.1 ≤ (insAt g i S).2.1 ∧ (insAt g i S).2.1 ≤ S.2.1 + i ∧ S.2.2 ≤ (insAt g i S).2.2 ∧ (insAt g i S).2.2 ≤ S.2.2 + i + 1 := by
  have h := sh_bounds (S.1.getD i 0) g S.1 i S.2.1 S.2.2
  generalize hr : sh (S.1.getD i 0) g S.1 i S.2.1 S.2.2 = r at h
  obtain ⟨M, j, c, m⟩ := r
  rw [insAt_of hr]
  simp only at h
  split <;> simp only <;> omega
theorem insAt_from (g i : Nat) (L : List Int) (c m : Nat) : insAt g i (L, c, m) = ((insAt g i (L, 0, 0)).1, c + (insAt g i (L, 0, 0)).2.1, m + (insAt g i (L, 0, 0)).2.2) := by
  have h := sh_from (L.getD i 0) g i L i c m (Nat.le_refl _)
  generalize hr : sh (L.getD i 0) g L i 0 0 = r at h
  obtain ⟨M, j, c', m'⟩ := r
  rw [insAt_of (S := (L, c, m)) h, insAt_of (S := (L, 0, 0)) hr]
  split <;> simp only [Prod.mk.injEq, true_and] <;> omega

/-- n insertions from place i on. -/
def insN (g : Nat) : Nat → Nat → St3 → St3
  | _, 0, S => S
  | i, n + 1, S => insN g (i + 1) n (insAt g i S)
theorem insN_succ (g i n : Nat) (S : St3) : insN g i (n + 1) S = insN g (i + 1) n (insAt g i S) := rfl
theorem insN_length (g : Nat) : ∀ (n i : Nat) (S : St3), (insN g i n S).1.length = S.1.length
  | 0, _, _ => rfl
  | n + 1, i, S => by rw [insN_succ, insN_length g n]; exact insAt_length g i S
theorem insN_bounds (g : Nat) : ∀ (n i : Nat) (S : St3), i + n ≤ 64 → S.2.1 ≤ (insN g i n S).2.1 ∧ (insN g i n S).2.1 ≤ S.2.1 + 64 * n ∧ S.2.2 ≤ (insN g i n S).2.2 ∧ (insN g i n S).2.2 ≤ S.2.2 + 65 * n
  | 0, _, _, _ => ⟨Nat.le_refl _, Nat.le_refl _, Nat.le_refl _, Nat.le_refl _⟩
  | n + 1, i, S, h => by
    rw [insN_succ]
    have h1 := insN_bounds g n (i + 1) (insAt g i S) (by omega)
    have h2 := insAt_bounds g i S
    omega
theorem insN_from (g : Nat) : ∀ (n i : Nat) (L : List Int) (c m : Nat), insN g i n (L, c, m) = ((insN g i n (L, 0, 0)).1, c + (insN g i n (L, 0, 0)).2.1, m + (insN g i n (L, 0, 0)).2.2)
  | 0, _, _, _, _ => rfl
  | n + 1, i, L, c, m => by
    rw [insN_succ, insN_succ, insAt_from g i L c m]
    generalize insAt g i (L, 0, 0) = T
    obtain ⟨M, c', m'⟩ := T
    rw [insN_from g n (i + 1) M (c + c') (m + m'), insN_from g n (i + 1) M c' m']
    simp only [Prod.mk.injEq, true_and]
    omega

/-- All insertions of one gap. -/
def gapF (S : St3) (g : Nat) : St3 := insN g g (S.1.length - g) S
theorem gapF_length (S : St3) (g : Nat) : (gapF S g).1.length = S.1.length := insN_length _ _ _ _
theorem gapF_bounds (S : St3) (g : Nat) (h : S.1.length ≤ 64) : S.2.1 ≤ (gapF S g).2.1 ∧ (gapF S g).2.1 ≤ S.2.1 + 4096 ∧ S.2.2 ≤ (gapF S g).2.2 ∧ (gapF S g).2.2 ≤ S.2.2 + 4160 := by
  unfold gapF
  by_cases hg : g ≤ S.1.length
  · have := insN_bounds g (S.1.length - g) g S (by omega); omega
  · rw [show S.1.length - g = 0 by omega]; simp [insN]
theorem gapF_from (g : Nat) (L : List Int) (c m : Nat) : gapF (L, c, m) g = ((gapF (L, 0, 0) g).1, c + (gapF (L, 0, 0) g).2.1, m + (gapF (L, 0, 0) g).2.2) := insN_from _ _ _ _ _ _
def gapsF (gs : List Nat) (S : St3) : St3 := gs.foldl gapF S
theorem gapsF_cons (g : Nat) (gs : List Nat) (S : St3) : gapsF (g :: gs) S = gapsF gs (gapF S g) := rfl
theorem gapsF_length : ∀ (gs : List Nat) (S : St3), (gapsF gs S).1.length = S.1.length
  | [], _ => rfl
  | g :: gs, S => by rw [gapsF_cons, gapsF_length gs, gapF_length]

/-- The list inserted whole. -/
def insF (l : List Int) : St3 := gapF (l, 0, 0) 1
def srt (l : List Int) : List Int := (insF l).1
theorem srt_length (l : List Int) : (srt l).length = l.length := gapF_length _ _

/-! ### What an insertion at gap 1 does -/

theorem set_mid (A : List Int) (z y : Int) (D : List Int) : (A ++ z :: D).set A.length y = A ++ y :: D := by
  rw [List.set_append_right _ _ (Nat.le_refl _), Nat.sub_self, List.set_cons_zero]
theorem getD_mid (A : List Int) (z : Int) (D : List Int) : (A ++ z :: D).getD A.length 0 = z := by
  rw [List.getD_eq_getElem?_getD, List.getElem?_append_right (Nat.le_refl _), Nat.sub_self]; rfl

theorem sh_one (x : Int) : ∀ (n : Nat) (A : List Int) (z : Int) (D : List Int) (c m : Nat), A.length = n → ∃ A1 A2 z', A = A1 ++ A2 ∧ (∀ a ∈ A2, x < a) ∧ (∀ a, A1.getLast? = some a → ¬ x < a) ∧
    sh x 1 (A ++ z :: D) A.length c m = (A1 ++ z' :: (A2 ++ D), A1.length, c + A2.length + (if A1 = [] then 0 else 1), m + A2.length) ∧ (A2 = [] → z' = z) := by
  intro n
  induction n with
  | zero =>
    intro A z D c m hA
    obtain rfl := List.length_eq_zero_iff.1 hA
    refine ⟨[], [], z, rfl, by simp, by simp, ?_, fun _ => rfl⟩
    rw [sh_end c m (by simp)]; simp
  | succ n ih =>
    intro A z D c m hA
    obtain ⟨B, a, rfl⟩ : ∃ B a, A = B ++ [a] := ⟨A.dropLast, A.getLast (by intro e; simp [e] at hA), (List.dropLast_concat_getLast _).symm⟩
    have hB : B.length = n := by simpa using hA
    have hl : (B ++ [a]).length = B.length + 1 := by simp
    have e0 : (B ++ [a]) ++ z :: D = B ++ a :: (z :: D) := by simp
    have hget : ((B ++ [a]) ++ z :: D).getD ((B ++ [a]).length - 1) 0 = a := by
      rw [hl, Nat.add_sub_cancel, e0]; exact getD_mid _ _ _
    by_cases hx : x < a
    · have hset : ((B ++ [a]) ++ z :: D).set (B ++ [a]).length a = B ++ a :: (a :: D) := by rw [set_mid]; simp
      rw [sh_go c m (by omega) (by omega) (by rw [hget]; exact hx), hget, hset, hl, Nat.add_sub_cancel]
      obtain ⟨A1, A2, z', e, h1, h2, h3, h4⟩ := ih B a (a :: D) (c + 1) (m + 1) hB
      refine ⟨A1, A2 ++ [a], z', by rw [e]; simp, ?_, h2, ?_, fun h => by simp at h⟩
      · intro y hy
        rcases List.mem_append.1 hy with h | h
        · exact h1 y h
        · simp at h; omega
      · rw [h3]; simp only [List.length_append, List.length_singleton, List.append_assoc, List.singleton_append, Prod.mk.injEq, true_and]
        omega
    · rw [sh_stop c m (by omega) (by omega) (by rw [hget]; exact hx)]
      refine ⟨B ++ [a], [], z, by simp, by simp, ?_, ?_, fun _ => rfl⟩
      · intro y hy; simp at hy; omega
      · simp

/-- An insertion: the greater ones behind it. -/
theorem insAt_one (A : List Int) (x : Int) (D : List Int) (c m : Nat) : ∃ A1 A2, A = A1 ++ A2 ∧ (∀ a ∈ A2, x < a) ∧ (∀ a, A1.getLast? = some a → ¬ x < a) ∧
    insAt 1 A.length (A ++ x :: D, c, m) = (A1 ++ x :: (A2 ++ D), c + A2.length + (if A1 = [] then 0 else 1), m + A2.length + (if A2 = [] then 0 else 1)) := by
  obtain ⟨A1, A2, z', e, h1, h2, h3, h4⟩ := sh_one x A.length A x D c m rfl
  refine ⟨A1, A2, e, h1, h2, ?_⟩
  have hg := getD_mid A x D
  have hi := insAt_of (g := 1) (i := A.length) (S := (A ++ x :: D, c, m)) (M := A1 ++ z' :: (A2 ++ D)) (j := A1.length) (by simp only; rw [hg]; exact h3)
  simp only at hi
  rw [hg] at hi
  rw [hi]
  by_cases h : A2 = []
  · have hz := h4 h
    subst h
    rw [if_pos (by rw [e]; simp), hz]; simp
  · have : A1.length ≠ A.length := by
      rw [e, List.length_append]
      have := List.length_pos_iff.2 h
      omega
    rw [if_neg this, if_neg h, set_mid]

def Asc (l : List Int) : Prop := l.Pairwise (fun a b => a ≤ b)
theorem Asc.insert {A1 A2 : List Int} {x : Int} (h : Asc (A1 ++ A2)) (h1 : ∀ a ∈ A2, x < a) (h2 : ∀ a, A1.getLast? = some a → ¬ x < a) : Asc (A1 ++ x :: A2) := by
  unfold Asc at *
  obtain ⟨p1, p2, p3⟩ := List.pairwise_append.1 h
  have hA1 : ∀ a ∈ A1, a ≤ x := by
    intro a ha
    by_cases he : A1 = []
    · rw [he] at ha; simp at ha
    · have e := List.dropLast_concat_getLast he
      have hl := h2 (A1.getLast he) (List.getLast?_eq_some_getLast he)
      rw [← e] at ha p1
      rcases List.mem_append.1 ha with hb | hb
      · have := (List.pairwise_append.1 p1).2.2 a hb (A1.getLast he) (by simp); omega
      · simp at hb; omega
  refine List.pairwise_append.2 ⟨p1, List.pairwise_cons.2 ⟨fun a ha => by have := h1 a ha; omega, p2⟩, fun a ha b hb => ?_⟩
  rcases List.mem_cons.1 hb with rfl | hb
  · exact hA1 a ha
  · exact p3 a ha b hb

/-- What holds after the first i insertions at gap 1. -/
structure Ins1 (l : List Int) (i : Nat) (S : St3) : Prop where
  perm : S.1.Perm l
  asc : Asc (S.1.take i)
  rest : S.1.drop i = l.drop i
theorem Ins1.step {l : List Int} {i : Nat} {S : St3} (h : Ins1 l i S) (hi : i < l.length) : Ins1 l (i + 1) (insAt 1 i S) ∧ ∃ A1 A2 : List Int, A1.length + A2.length = i ∧ (insAt 1 i S).2.1 = S.2.1 + A2.length + (if A1 = [] then 0 else 1) := by
  obtain ⟨hp, ha, hr⟩ := h
  have hl := hp.length_eq
  obtain ⟨L, c, m⟩ := S
  simp only at *
  have hx : L.drop i = L[i] :: L.drop (i + 1) := List.drop_eq_getElem_cons (by omega)
  have e0 : L = L.take i ++ L[i] :: L.drop (i + 1) := by rw [← hx, List.take_append_drop]
  have hlen : (L.take i).length = i := by rw [List.length_take]; omega
  have hlast : L.drop (i + 1) = l.drop (i + 1) := by rw [← List.drop_drop, hr, List.drop_drop]
  obtain ⟨A1, A2, e, h1, h2, h3⟩ := insAt_one (L.take i) L[i] (L.drop (i + 1)) c m
  rw [hlen, ← e0] at h3
  rw [h3]
  have hAL : A1.length + A2.length = i := by rw [← hlen, e, List.length_append]
  refine ⟨⟨?_, ?_, ?_⟩, A1, A2, hAL, rfl⟩
  · refine List.Perm.trans ?_ hp
    have e1 : L = A1 ++ (A2 ++ L[i] :: L.drop (i + 1)) := by rw [← List.append_assoc, ← e]; exact e0
    simp only
    generalize L[i] = x at *
    generalize L.drop (i + 1) = D at *
    subst e1
    exact List.Perm.append_left _ (List.perm_middle).symm
  · have e2 : A1 ++ L[i] :: (A2 ++ L.drop (i + 1)) = (A1 ++ L[i] :: A2) ++ L.drop (i + 1) := by simp
    simp only
    rw [e2, List.take_left' (by simp; omega)]
    rw [e] at ha
    exact ha.insert h1 h2
  · have e2 : A1 ++ L[i] :: (A2 ++ L.drop (i + 1)) = (A1 ++ L[i] :: A2) ++ L.drop (i + 1) := by simp
    simp only
    rw [e2, List.drop_left' (by simp; omega)]
    exact hlast
theorem Ins1.all {l : List Int} : ∀ (n i : Nat) (S : St3), Ins1 l i S → i + n = l.length → Ins1 l l.length (insN 1 i n S)
  | 0, i, S, h, hn => by obtain rfl : i = l.length := by omega
                         exact h
  | n + 1, i, S, h, hn => by rw [insN_succ]; exact Ins1.all n (i + 1) _ (h.step (by omega)).1 (by omega)
theorem Ins1.start (l : List Int) (c m : Nat) : Ins1 l 1 (l, c, m) :=
  ⟨List.Perm.refl _, by
    cases l with
    | nil => exact List.Pairwise.nil
    | cons a l => show List.Pairwise _ [a]; simp, rfl⟩
theorem gap1_perm (l : List Int) (c m : Nat) : (gapF (l, c, m) 1).1.Perm l ∧ Asc (gapF (l, c, m) 1).1 := by
  unfold gapF
  simp only
  cases l with
  | nil => exact ⟨List.Perm.refl _, List.Pairwise.nil⟩
  | cons a l =>
    have h := Ins1.all (l := a :: l) ((a :: l).length - 1) 1 (a :: l, c, m) (Ins1.start _ c m) (by simp; omega)
    refine ⟨h.perm, ?_⟩
    have h2 := h.asc
    rw [List.take_of_length_le (by rw [h.perm.length_eq]; exact Nat.le_refl _)] at h2
    exact h2
theorem srt_perm (l : List Int) : (srt l).Perm l := (gap1_perm l 0 0).1
theorem srt_asc (l : List Int) : Asc (srt l) := (gap1_perm l 0 0).2

theorem asc_eq : ∀ {a b : List Int}, Asc a → Asc b → a.Perm b → a = b
  | [], b, _, _, h => by have := h.length_eq; simp at this; exact (List.length_eq_zero_iff.1 this.symm).symm
  | x :: a, b, ha, hb, h => by
    cases b with
    | nil => have := h.length_eq; simp at this
    | cons y b =>
      obtain ⟨h1, h2⟩ := List.pairwise_cons.1 ha
      obtain ⟨h3, h4⟩ := List.pairwise_cons.1 hb
      have hxy : x = y := by
        have m1 : x ∈ y :: b := h.mem_iff.1 (by simp)
        have m2 : y ∈ x :: a := h.mem_iff.2 (by simp)
        rcases List.mem_cons.1 m1 with e | m1
        · exact e
        · rcases List.mem_cons.1 m2 with e | m2
          · exact e.symm
          · have := h1 y m2; have := h3 x m1; omega
      subst hxy
      rw [asc_eq h2 h4 (h.cons_inv)]
theorem srt_uniq {l s : List Int} (h : Asc s) (hp : s.Perm l) : s = srt l := asc_eq h (srt_asc l) (hp.trans (srt_perm l).symm)

/-! ### The comparisons of an insertion sort -/
theorem cmp_bounds {l : List Int} : ∀ (n i : Nat) (S : St3), Ins1 l i S → i + n = l.length → 0 < i → S.2.1 + n ≤ (insN 1 i n S).2.1 ∧ 2 * (insN 1 i n S).2.1 + i * (i - 1) ≤ 2 * S.2.1 + (i + n) * (i + n - 1)
  | 0, i, S, h, hn, h0 => by simp [insN]
  | n + 1, i, S, h, hn, h0 => by
    rw [insN_succ]
    obtain ⟨h1, A1, A2, h2, h3⟩ := h.step (by omega)
    obtain ⟨i', rfl⟩ : ∃ i', i = i' + 1 := ⟨i - 1, by omega⟩
    have ih := cmp_bounds n (i' + 1 + 1) _ h1 (by omega) (by omega)
    have hc : S.2.1 + 1 ≤ (insAt 1 (i' + 1) S).2.1 ∧ (insAt 1 (i' + 1) S).2.1 ≤ S.2.1 + (i' + 1) := by
      rw [h3]
      by_cases e : A1 = []
      · rw [if_pos e]; rw [e] at h2; simp at h2; omega
      · rw [if_neg e]; have := List.length_pos_iff.2 e; omega
    have e1 : (i' + 1 + 1) * (i' + 1 + 1 - 1) = (i' + 1) * (i' + 1 - 1) + 2 * (i' + 1) := by
      simp only [Nat.add_sub_cancel]
      rw [Nat.add_mul (i' + 1) 1 (i' + 1), Nat.mul_add (i' + 1) i' 1]; omega
    rw [e1, show i' + 1 + 1 + n = i' + 1 + (n + 1) by omega] at ih
    omega
theorem ins_cmps (l : List Int) (hl : 0 < l.length) : l.length ≤ (insF l).2.1 + 1 ∧ 2 * (insF l).2.1 ≤ l.length * (l.length - 1) := by
  have h := cmp_bounds (l.length - 1) 1 (l, 0, 0) (Ins1.start l 0 0) (by omega) (by omega)
  have e : insF l = insN 1 1 (l.length - 1) (l, 0, 0) := rfl
  rw [e]
  rw [show 1 + (l.length - 1) = l.length by omega] at h
  simp only at h
  omega

/-! ### Any gap keeps the elements -/
theorem swapped_perm {p : List Int} {i k : Nat} (hi : i < p.length) (hk : k < p.length) : (swapped p i k).Perm p := by
  have key : ∀ {i k : Nat}, i < k → k < p.length → (swapped p i k).Perm p := fun {i k} h hk => by
    obtain ⟨L, M, R, e1, e2⟩ := swapped_cut h hk
    rw [e2]
    generalize p.getD i 0 = x at *
    generalize p.getD k 0 = y at *
    subst e1
    have hp : (x :: (M ++ y :: R)).Perm (y :: (M ++ x :: R)) := by
      refine (List.perm_middle.cons x).trans ((List.Perm.swap y x _).trans ?_)
      exact (List.perm_middle.symm).cons y
    exact (hp.append_left L).symm
  rcases Nat.lt_trichotomy i k with h | h | h
  · exact key h hk
  · subst h
    have : swapped p i i = p := by
      unfold swapped
      rw [List.set_set]
      have := at_getD hi
      apply List.ext_getElem?
      intro j
      rw [List.getElem?_set]
      split
      · rename_i e; subst e; exact this.symm
      · rfl
    rw [this]
  · rw [swapped_comm p (by omega)]; exact key h hi

theorem getD_set_same {L : List Int} {k : Nat} (h : k < L.length) (x : Int) : (L.set k x).getD k 0 = x := by
  rw [List.getD_eq_getElem?_getD, List.getElem?_set, if_pos rfl, if_pos h]; rfl
theorem getD_set_other {L : List Int} {k j : Nat} (h : k ≠ j) (x : Int) : (L.set k x).getD j 0 = L.getD j 0 := by
  rw [List.getD_eq_getElem?_getD, List.getElem?_set, if_neg h, ← List.getD_eq_getElem?_getD]
/-- A shift, seen with the element in the hole: an exchange. -/
theorem hole_swap {L : List Int} {k j : Nat} (x : Int) (hk : k < L.length) (hj : j < L.length) (h : j ≠ k) : (L.set k (L.getD j 0)).set j x = swapped (L.set k x) j k := by
  unfold swapped
  rw [getD_set_same hk, getD_set_other (fun e => h e.symm), List.set_comm x (L.getD j 0) h, List.set_set]
theorem sh_perm (x : Int) (g : Nat) (L : List Int) (k c m : Nat) (hk : k < L.length) : ((sh x g L k c m).1.set (sh x g L k c m).2.1 x).Perm (L.set k x) := by
  have := sh_ind (x := x) (g := g) (F := fun M j _ _ => M.length = L.length ∧ j < L.length ∧ (M.set j x).Perm (L.set k x)) (fun M j c' m' h0 h1 _ hh => by
    obtain ⟨a1, a2, a3⟩ := hh
    refine ⟨by rw [List.length_set]; exact a1, by omega, ?_⟩
    rw [hole_swap x (by omega) (by omega) (by omega)]
    exact (swapped_perm (by rw [List.length_set]; omega) (by rw [List.length_set]; omega)).trans a3) (fun _ _ _ _ _ _ _ h => h) k L k c m (Nat.le_refl _) ⟨rfl, hk, List.Perm.refl _⟩
  exact this.2.2
theorem set_getD {L : List Int} {k : Nat} (hk : k < L.length) : L.set k (L.getD k 0) = L := by
  apply List.ext_getElem?
  intro j
  rw [List.getElem?_set]
  split
  · rename_i e; subst e; exact (at_getD hk).symm
  · rfl
/-- The shift's hole is untouched as long as it doesn't move. -/
theorem sh_hole (x : Int) (g : Nat) (L : List Int) (k c m : Nat) (hk : k < L.length) (h : (sh x g L k c m).2.1 = k) : (sh x g L k c m).1 = L := by
  by_cases hg : 0 < g ∧ g ≤ k
  · by_cases hx : x < L.getD (k - g) 0
    · rw [sh_go c m hg.1 hg.2 hx] at h
      have := (sh_bounds x g (L.set k (L.getD (k - g) 0)) (k - g) (c + 1) (m + 1)).1
      omega
    · rw [sh_stop c m hg.1 hg.2 hx]
  · rw [sh, dif_neg hg]
theorem insAt_perm (g i : Nat) (S : St3) (hi : i < S.1.length) : (insAt g i S).1.Perm S.1 := by
  have h := sh_perm (S.1.getD i 0) g S.1 i S.2.1 S.2.2 hi
  have h' := sh_hole (S.1.getD i 0) g S.1 i S.2.1 S.2.2 hi
  rw [set_getD hi] at h
  generalize hr : sh (S.1.getD i 0) g S.1 i S.2.1 S.2.2 = r at h h'
  obtain ⟨M, j, c, m⟩ := r
  rw [insAt_of hr]
  simp only at h h'
  split
  · rename_i e; rw [h' e]
  · exact h
theorem insN_perm (g : Nat) : ∀ (n i : Nat) (S : St3), i + n ≤ S.1.length → (insN g i n S).1.Perm S.1
  | 0, _, _, _ => List.Perm.refl _
  | n + 1, i, S, h => by
    rw [insN_succ]
    exact (insN_perm g n (i + 1) _ (by rw [insAt_length]; omega)).trans (insAt_perm g i S (by omega))
theorem gapF_perm (S : St3) (g : Nat) : (gapF S g).1.Perm S.1 := by
  unfold gapF
  by_cases h : g ≤ S.1.length
  · exact insN_perm g _ g S (by omega)
  · rw [show S.1.length - g = 0 by omega]; exact List.Perm.refl _
theorem gapsF_perm : ∀ (gs : List Nat) (S : St3), (gapsF gs S).1.Perm S.1
  | [], _ => List.Perm.refl _
  | g :: gs, S => by rw [gapsF_cons]; exact (gapsF_perm gs _).trans (gapF_perm S g)
theorem gapsF_sorts (gs : List Nat) (l : List Int) : (gapsF (gs ++ [1]) (l, 0, 0)).1 = srt l := by
  have e : gapsF (gs ++ [1]) (l, 0, 0) = gapF (gapsF gs (l, 0, 0)) 1 := by unfold gapsF; rw [List.foldl_append]; rfl
  rw [e]
  have hp := gapsF_perm gs (l, 0, 0)
  generalize gapsF gs (l, 0, 0) = S at *
  obtain ⟨M, c, m⟩ := S
  obtain ⟨h1, h2⟩ := gap1_perm M c m
  exact srt_uniq h2 (h1.trans hp)

/-! ### Places that differ -/
def ham (a b : List Int) : Nat := (a.zip b).countP (fun p => p.1 != p.2)
theorem ham_self : ∀ a : List Int, ham a a = 0
  | [] => rfl
  | x :: a => by have := ham_self a; unfold ham at *; simp [this]
theorem ham_cons (x y : Int) (a b : List Int) : ham (x :: a) (y :: b) = ham a b + if x = y then 0 else 1 := by
  unfold ham
  rw [List.zip_cons_cons, List.countP_cons]
  by_cases h : x = y <;> simp [h]
theorem ham_set : ∀ (a b : List Int) (k : Nat) (x : Int), ham a (b.set k x) ≤ ham a b + 1
  | [], b, k, x => by simp [ham]
  | u :: a, [], k, x => by simp [ham]
  | u :: a, v :: b, 0, x => by rw [List.set_cons_zero, ham_cons, ham_cons]; split <;> split <;> omega
  | u :: a, v :: b, k + 1, x => by rw [List.set_cons_succ, ham_cons, ham_cons]; have := ham_set a b k x; omega
theorem sh_ham (a : List Int) (x : Int) (g : Nat) (L : List Int) (k c m d : Nat) (h : ham a L ≤ d + m) : ham a (sh x g L k c m).1 ≤ d + (sh x g L k c m).2.2.2 :=
  sh_ind (x := x) (g := g) (F := fun M _ _ m' => ham a M ≤ d + m') (fun M j c' m' _ _ _ h => by have := ham_set a M j (M.getD (j - g) 0); omega) (fun _ _ _ _ _ _ _ h => h) k L k c m (Nat.le_refl _) h
theorem insAt_ham (a : List Int) (g i : Nat) (S : St3) (h : ham a S.1 ≤ S.2.2) : ham a (insAt g i S).1 ≤ (insAt g i S).2.2 := by
  have h' := sh_ham a (S.1.getD i 0) g S.1 i S.2.1 S.2.2 0 (by omega)
  generalize hr : sh (S.1.getD i 0) g S.1 i S.2.1 S.2.2 = r at h'
  obtain ⟨M, j, c, m⟩ := r
  rw [insAt_of hr]
  simp only at h'
  split
  · simp only; omega
  · have := ham_set a M j (S.1.getD i 0); simp only; omega
theorem insN_ham (a : List Int) (g : Nat) : ∀ (n i : Nat) (S : St3), ham a S.1 ≤ S.2.2 → ham a (insN g i n S).1 ≤ (insN g i n S).2.2
  | 0, _, _, h => h
  | n + 1, i, S, h => by rw [insN_succ]; exact insN_ham a g n _ _ (insAt_ham a g i S h)
theorem ins_ham (l : List Int) : ham l (srt l) ≤ (insF l).2.2 := insN_ham l 1 _ 1 (l, 0, 0) (by rw [ham_self]; exact Nat.le_refl _)

end El
end Go.Proofs.Ythmcjmjkmmbepaa
