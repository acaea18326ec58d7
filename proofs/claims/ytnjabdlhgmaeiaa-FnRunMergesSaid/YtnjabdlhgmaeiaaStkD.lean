/- The run stack's depth. Nothing of the program. -/
import Derived.Test.YtnjabdlhgmaeiaaStkP
namespace Go.Proofs.Ytnjabdlhgmaeiaa.Sk
open Go.Proofs.Ytnjabdlhgmaeiaa
set_option linter.unusedVariables false

/-- Each of the lowest n entries is more than the two above it. -/
def Gd (s : List Int) (n : Nat) : Prop := ∀ i, i + 1 < n → s.getD (i + 1) 0 < s.getD i 0 ∧ (i + 2 < n → s.getD (i + 1) 0 + s.getD (i + 2) 0 < s.getD i 0)

theorem mrg_below {s : List Int} {k j : Nat} (hk : k + 1 < s.length) (h : j < k) : (mrg s k).getD j 0 = s.getD j 0 := by
  unfold mrg
  rw [List.getD_eq_getElem?_getD, List.getD_eq_getElem?_getD, List.getElem?_append_left (by rw [List.length_take]; omega), List.getElem?_take, if_pos h, List.getD_eq_getElem?_getD]
theorem low_ge {s : List Int} (h : 2 ≤ s.length) : s.length - 3 ≤ low s := by unfold low; split <;> omega
theorem Gd.mrg {s : List Int} (h : Gd s (s.length - 2)) (h2 : 2 ≤ s.length) : Gd (Sk.mrg s (low s)) ((Sk.mrg s (low s)).length - 2) := by
  have hl := low_lt h2
  have hg := low_ge h2
  rw [mrg_length hl]
  intro i hi
  have a := h i (by omega)
  rw [mrg_below hl (show i < low s by omega), mrg_below hl (show i + 1 < low s by omega)]
  refine ⟨a.1, fun hi2 => ?_⟩
  rw [mrg_below hl (show i + 2 < low s by omega)]
  exact a.2 (by omega)
theorem Gd.full {s : List Int} {B : Int} (h : Gd s (s.length - 2)) (hp : Pos B s) (hn : ¬ unb s) : Gd s s.length := by
  intro i hi
  unfold unb tp at hn
  by_cases h1 : i + 2 = s.length
  · have h2 : 2 ≤ s.length ∧ s.getD (s.length - 2) 0 ≤ s.getD (s.length - 1) 0 → False := fun h => hn (.inr (.inr h))
    have e1 : s.length - 2 = i := by omega
    have e2 : s.length - 1 = i + 1 := by omega
    rw [e1, e2] at h2
    exact ⟨by apply Classical.byContradiction; intro hc; exact h2 ⟨by omega, by omega⟩, fun h => by omega⟩
  · by_cases h3 : i + 3 = s.length
    · have h2 : 3 ≤ s.length ∧ s.getD (s.length - 3) 0 ≤ s.getD (s.length - 2) 0 + s.getD (s.length - 1) 0 → False := fun h => hn (.inl h)
      have e0 : s.length - 3 = i := by omega
      have e1 : s.length - 2 = i + 1 := by omega
      have e2 : s.length - 1 = i + 2 := by omega
      rw [e0, e1, e2] at h2
      have p := (hp.at (k := i + 2) (by omega)).1
      have q : s.getD (i + 1) 0 + s.getD (i + 2) 0 < s.getD i 0 := by apply Classical.byContradiction; intro hc; exact h2 ⟨by omega, by omega⟩
      exact ⟨by omega, fun _ => q⟩
    · by_cases h4 : i + 4 = s.length
      · have h2 : 4 ≤ s.length ∧ s.getD (s.length - 4) 0 ≤ s.getD (s.length - 3) 0 + s.getD (s.length - 2) 0 → False := fun h => hn (.inr (.inl h))
        have e0 : s.length - 4 = i := by omega
        have e1 : s.length - 3 = i + 1 := by omega
        have e2 : s.length - 2 = i + 2 := by omega
        rw [e0, e1, e2] at h2
        have p := (hp.at (k := i + 2) (by omega)).1
        have q : s.getD (i + 1) 0 + s.getD (i + 2) 0 < s.getD i 0 := by apply Classical.byContradiction; intro hc; exact h2 ⟨by omega, by omega⟩
        exact ⟨by omega, fun _ => q⟩
      · have a := h i (by omega)
        exact ⟨a.1, fun _ => a.2 (by omega)⟩
theorem Gd.push {s : List Int} (h : Gd s s.length) (x : Int) : Gd (s ++ [x]) ((s ++ [x]).length - 2) := by
  have e : ∀ j, j < s.length → (s ++ [x]).getD j 0 = s.getD j 0 := fun j hj => by rw [List.getD_eq_getElem?_getD, List.getD_eq_getElem?_getD, List.getElem?_append_left hj]
  rw [List.length_append, List.length_singleton]
  intro i hi
  have a := h i (by omega)
  rw [e i (by omega), e (i + 1) (by omega)]
  refine ⟨a.1, fun hi2 => ?_⟩
  rw [e (i + 2) (by omega)]
  exact a.2 (by omega)
theorem Gd.coll {B : Int} : ∀ (n : Nat) (s out : List Int), s.length ≤ n → Gd s (s.length - 2) → Pos B s → Gd (coll false s out).1 (coll false s out).1.length := by
  intro n
  induction n with
  | zero =>
    intro s out hl h hp
    rw [coll_stop out (fun hn => by have := need_two hn; omega)]
    exact fun i hi => by simp only at hi; omega
  | succ n ih =>
    intro s out hl h hp
    by_cases hn : need s false
    · have h2 := need_two hn
      rw [coll_go out hn]
      exact ih _ _ (by rw [mrg_length (low_lt h2)]; omega) (h.mrg h2) (hp.mrg (low_lt h2))
    · rw [coll_stop out hn]
      exact h.full hp (by unfold need at hn; simpa using hn)

/-- The steps of x := x * 2 / 3 down to one. -/
def dep (x : Nat) : Nat := if h : x ≤ 1 then 0 else dep (x * 2 / 3) + 1
termination_by x
decreasing_by omega
theorem dep_go {x : Nat} (h : 1 < x) : dep x = dep (x * 2 / 3) + 1 := by rw [dep, dif_neg (by omega)]
theorem dep_stop {x : Nat} (h : x ≤ 1) : dep x = 0 := by rw [dep, dif_pos h]
theorem dep_mono : ∀ (n x y : Nat), x ≤ n → x ≤ y → dep x ≤ dep y := by
  intro n
  induction n with
  | zero => intro x y h _; rw [dep_stop (by omega)]; omega
  | succ n ih =>
    intro x y h hxy
    by_cases h1 : x ≤ 1
    · rw [dep_stop h1]; omega
    · rw [dep_go (x := x) (by omega), dep_go (x := y) (by omega)]
      have := ih (x * 2 / 3) (y * 2 / 3) (by omega) (by omega)
      omega
theorem Gd.tail {a : Int} {t : List Int} (h : Gd (a :: t) (t.length + 1)) : Gd t t.length := by
  intro i hi
  have := h (i + 1) (by omega)
  exact ⟨by simpa using this.1, fun h2 => by have := this.2 (by omega); simpa using this⟩
theorem Gd.sum : ∀ (t : List Int) (a b : Int), Gd (a :: b :: t) (t.length + 2) → 0 ≤ a → (∀ x ∈ b :: t, 1 ≤ x) → tot t ≤ a
  | [], a, b, h, ha, _ => by rw [tot]; exact ha
  | c :: t, a, b, h, ha, hp => by
    have h0 := (h 0 (by simp)).2 (by simp)
    simp at h0
    have hb := hp b (by simp)
    have ht : Gd (b :: c :: t) (t.length + 2) := by
      have := Gd.tail (a := a) (t := b :: c :: t) h
      simpa using this
    have := Gd.sum t b c ht (by omega) (fun x hx => hp x (by simp only [List.mem_cons] at hx ⊢; exact .inr hx))
    rw [tot]; omega
theorem dep_tot : ∀ (s : List Int), Gd s s.length → (∀ x ∈ s, 1 ≤ x) → s.length ≤ dep (tot s).toNat + 1
  | [], _, _ => by simp
  | [a], _, _ => by simp
  | a :: b :: t, h, hp => by
    have ih := dep_tot (b :: t) (Gd.tail h) (fun x hx => hp x (by simp only [List.mem_cons] at hx ⊢; exact .inr hx))
    have ha := hp a (by simp)
    have hb := hp b (by simp)
    have hs := Gd.sum t a b h (by omega) (fun x hx => hp x (by simp only [List.mem_cons] at hx ⊢; exact .inr hx))
    have h0 := (h 0 (by simp)).1
    simp at h0
    have ht := tot_nonneg (l := t) (fun y hy => hp y (by simp [hy]))
    have e : tot (a :: b :: t) = a + tot (b :: t) := rfl
    have e2 : tot (b :: t) = b + tot t := rfl
    rw [dep_go (by omega)]
    have := dep_mono _ (tot (b :: t)).toNat ((tot (a :: b :: t)).toNat * 2 / 3) (Nat.le_refl _) (by omega)
    simp only [List.length_cons] at ih ⊢
    omega
theorem push_most {B : Int} : ∀ (cs s o : List Int) (m D : Nat), Gd s s.length → Pos B s → (∀ x ∈ cs, 1 ≤ x) → tot s + tot cs ≤ B → m ≤ D → dep (tot s + tot cs).toNat + 3 ≤ D → (Sk.push cs (s, o, m)).2.2 ≤ D
  | [], s, o, m, D, _, _, _, _, hm, _ => hm
  | c :: cs, s, o, m, D, hg, hp, hc, hB, hm, hD => by
    rw [push_cons]
    have hc1 := hc c (by simp)
    have ht := tot_nonneg (l := cs) (fun y hy => hc y (by simp [hy]))
    have e : tot (c :: cs) = c + tot cs := rfl
    have hp2 : Pos B (s ++ [c]) := ⟨fun x hx => by rcases List.mem_append.1 hx with h | h; exact hp.1 x h; rw [List.mem_singleton.1 h]; exact hc1, by rw [tot_append]; simp only [tot]; omega⟩
    obtain ⟨q1, q2⟩ := coll_pos false B _ (s ++ [c]) o (Nat.le_refl _) hp2
    have q3 : tot (coll false (s ++ [c]) o).1 = tot s + c := by rw [q2, tot_append]; simp only [tot]; omega
    have hdt := dep_tot s hg hp.1
    have hmo := dep_mono _ (tot s).toNat (tot s + tot (c :: cs)).toNat (Nat.le_refl _) (by omega)
    refine push_most (B := B) cs _ _ _ D (Gd.coll _ _ _ (Nat.le_refl _) (hg.push c) hp2) q1 (fun x hx => hc x (by simp [hx])) (by rw [q3]; omega) (by omega) ?_
    rw [q3]
    have e3 : tot s + c + tot cs = tot s + tot (c :: cs) := by omega
    rw [e3]; exact hD
theorem push_pos : ∀ (cs s o : List Int) (m : Nat), 0 < s.length + cs.length → 0 < (Sk.push cs (s, o, m)).1.length
  | [], s, o, m, h => by show 0 < s.length; simpa using h
  | c :: cs, s, o, m, h => by
    rw [push_cons]
    have := (coll_len false _ (s ++ [c]) o (Nat.le_refl _)).2.1 (by simp)
    exact push_pos cs _ _ _ (by omega)
/-- The law. -/
theorem planF_most {l : List Int} (h : OkC l) : (planF l).2 ≤ l.length ∧ (planF l).2 ≤ dep (tot l).toNat + 3 ∧ ((l.length = 0 ∧ (planF l).1.length = 0) ∨ (planF l).1.length + 1 = l.length) := by
  refine ⟨(planF_len l).2, ?_, ?_⟩
  · exact push_most (B := tot l) l [] [] 0 _ (fun i hi => by simp at hi) ⟨by simp, by simp only [tot]; exact tot_nonneg (fun x hx => (h.2 x hx).1)⟩ (fun x hx => (h.2 x hx).1) (by simp [tot]) (Nat.zero_le _) (by simp [tot])
  · obtain ⟨a1, _, _⟩ := push_len l [] [] 0
    obtain ⟨b1, b2, b3, _⟩ := coll_len true _ (Sk.push l ([], [], 0)).1 (Sk.push l ([], [], 0)).2.1 (Nat.le_refl _)
    have b3 := b3 rfl
    unfold planF
    simp only [List.length_nil] at a1 ⊢
    by_cases hl : l.length = 0
    · left; exact ⟨hl, by omega⟩
    · right
      have := b2 (push_pos l [] [] 0 (by omega))
      omega

end Go.Proofs.Ytnjabdlhgmaeiaa.Sk
