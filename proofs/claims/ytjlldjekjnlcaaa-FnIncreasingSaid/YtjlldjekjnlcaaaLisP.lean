/- Longest increasing subsequences and patience piles: plain lists. -/
import Derived.Test.YtjlldjekjnlcaaaInvP
namespace Go.Proofs.Ytjlldjekjnlcaaa
namespace Iv
open P

/-- The greatest length among the elements greater than x. -/
def over (x : Int) (z : List (Int × Int)) : Int := z.foldl (fun m a => if x < a.1 then max m a.2 else m) 0
/-- The length of a longest increasing subsequence that begins at each element. -/
def lis : List Int → List Int
  | [] => []
  | x :: l => (1 + over x (l.zip (lis l))) :: lis l
theorem lis_length : ∀ l : List Int, (lis l).length = l.length
  | [] => rfl
  | x :: l => by rw [lis, List.length_cons, List.length_cons, lis_length l]
theorem lis_drop {l : List Int} {i : Nat} {x : Int} (h : l[i]? = some x) : lis (l.drop i) = (1 + over x ((l.drop (i + 1)).zip (lis (l.drop (i + 1))))) :: lis (l.drop (i + 1)) := by
  obtain ⟨hi, hx⟩ := List.getElem?_eq_some_iff.1 h
  rw [List.drop_eq_getElem_cons hi, hx]; rfl
theorem lis_tail : ∀ (l : List Int) (i : Nat), lis (l.drop i) = (lis l).drop i
  | l, 0 => rfl
  | [], i + 1 => by simp [lis]
  | x :: l, i + 1 => by rw [List.drop_succ_cons, lis, List.drop_succ_cons]; exact lis_tail l i

/-- So far, over the first k of them. -/
def overTo (x : Int) (z : List (Int × Int)) (k : Nat) : Int := over x (z.take k)
theorem overTo_zero (x : Int) (z : List (Int × Int)) : overTo x z 0 = 0 := by simp [overTo, over]
theorem overTo_succ {x : Int} {z : List (Int × Int)} {k : Nat} {a : Int × Int} (h : z[k]? = some a) : overTo x z (k + 1) = if x < a.1 then max (overTo x z k) a.2 else overTo x z k := by
  unfold overTo over
  rw [List.take_add_one, h, List.foldl_append]; rfl
theorem overTo_all (x : Int) (z : List (Int × Int)) : overTo x z z.length = over x z := by unfold overTo; rw [List.take_length]

theorem over_le {x b : Int} {z : List (Int × Int)} : over x z ≤ b ↔ 0 ≤ b ∧ ∀ a ∈ z, x < a.1 → a.2 ≤ b := by
  unfold over
  suffices h : ∀ m : Int, z.foldl (fun m a => if x < a.1 then max m a.2 else m) m ≤ b ↔ m ≤ b ∧ ∀ a ∈ z, x < a.1 → a.2 ≤ b from h 0
  induction z with
  | nil => intro m; simp
  | cons a z ih =>
    intro m
    rw [List.foldl_cons, ih]
    by_cases h : x < a.1
    · rw [if_pos h]
      constructor
      · rintro ⟨h1, h2⟩
        refine ⟨by omega, fun c hc hx => ?_⟩
        rcases List.mem_cons.1 hc with rfl | hc
        · omega
        · exact h2 c hc hx
      · rintro ⟨h1, h2⟩
        have := h2 a List.mem_cons_self h
        exact ⟨by omega, fun c hc hx => h2 c (List.mem_cons_of_mem _ hc) hx⟩
    · rw [if_neg h]
      constructor
      · rintro ⟨h1, h2⟩
        refine ⟨h1, fun c hc hx => ?_⟩
        rcases List.mem_cons.1 hc with rfl | hc
        · exact absurd hx h
        · exact h2 c hc hx
      · rintro ⟨h1, h2⟩
        exact ⟨h1, fun c hc hx => h2 c (List.mem_cons_of_mem _ hc) hx⟩
theorem over_nonneg (x : Int) (z : List (Int × Int)) : 0 ≤ over x z := (over_le.1 (Int.le_refl (over x z))).1
theorem over_mem {x : Int} {z : List (Int × Int)} {a : Int × Int} (h : a ∈ z) (hx : x < a.1) : a.2 ≤ over x z := (over_le.1 (Int.le_refl (over x z))).2 a h hx
theorem over_some {x : Int} {z : List (Int × Int)} (h : 0 < over x z) : ∃ a ∈ z, x < a.1 ∧ a.2 = over x z := by
  apply Classical.byContradiction
  intro hn
  have : over x z ≤ over x z - 1 := over_le.2 ⟨by omega, fun a ha hx => by
    have h1 := over_mem ha hx
    have h2 : a.2 ≠ over x z := fun e => hn ⟨a, ha, hx, e⟩
    omega⟩
  omega
theorem over_count {x : Int} {z : List (Int × Int)} {n : Nat} (h : ∀ a ∈ z, a.2 ≤ n) : over x z ≤ n := over_le.2 ⟨by omega, fun a ha _ => h a ha⟩

/-- The best of them all. -/
def best (L : List Int) : Int := L.foldl max 0
theorem best_le {L : List Int} {b : Int} : best L ≤ b ↔ 0 ≤ b ∧ ∀ a ∈ L, a ≤ b := by
  unfold best
  suffices h : ∀ m : Int, L.foldl max m ≤ b ↔ m ≤ b ∧ ∀ a ∈ L, a ≤ b from h 0
  induction L with
  | nil => intro m; simp
  | cons a L ih =>
    intro m
    rw [List.foldl_cons, ih, List.forall_mem_cons]
    constructor
    · rintro ⟨h1, h2⟩; exact ⟨by omega, by omega, h2⟩
    · rintro ⟨h1, h2, h3⟩; exact ⟨by omega, h3⟩
theorem best_nonneg (L : List Int) : 0 ≤ best L := (best_le.1 (Int.le_refl (best L))).1
theorem best_mem {L : List Int} {a : Int} (h : a ∈ L) : a ≤ best L := (best_le.1 (Int.le_refl (best L))).2 a h
theorem best_cons (a : Int) (L : List Int) : best (a :: L) = max a (best L) := by
  have h1 : best (a :: L) ≤ max a (best L) := best_le.2 ⟨by have := best_nonneg L; omega, fun b hb => by
    rcases List.mem_cons.1 hb with rfl | hb
    · omega
    · have := best_mem hb; omega⟩
  have h2 : a ≤ best (a :: L) := best_mem List.mem_cons_self
  have h3 : best L ≤ best (a :: L) := best_le.2 ⟨best_nonneg _, fun b hb => best_mem (List.mem_cons_of_mem _ hb)⟩
  omega
theorem best_take {L : List Int} {k : Nat} {x : Int} (h : L[k]? = some x) : best (L.take (k + 1)) = max (best (L.take k)) x := by
  unfold best
  rw [List.take_add_one, h, List.foldl_append]; rfl
theorem lis_pos : ∀ {l : List Int}, ∀ a ∈ lis l, 1 ≤ a
  | [], a, h => by simp [lis] at h
  | x :: l, a, h => by
    rw [lis] at h
    rcases List.mem_cons.1 h with rfl | h
    · have := over_nonneg x (l.zip (lis l)); omega
    · exact lis_pos a h
theorem lis_small : ∀ {l : List Int}, ∀ a ∈ lis l, a ≤ l.length
  | [], a, h => by simp [lis] at h
  | x :: l, a, h => by
    rw [lis] at h
    rcases List.mem_cons.1 h with rfl | h
    · have : over x (l.zip (lis l)) ≤ l.length := over_count (n := l.length) fun b hb => by
        obtain ⟨b1, b2⟩ := b
        exact lis_small b2 (List.of_mem_zip hb).2
      simp; omega
    · have := lis_small a h; simp; omega
theorem lis_best (l : List Int) : best (lis l) ≤ l.length := best_le.2 ⟨by omega, fun a ha => lis_small a ha⟩
/-- Of the lengths from the back on: how the model keeps the best. -/
theorem best_drop {L : List Int} {i : Nat} {x : Int} (h : L[i]? = some x) : best (L.drop i) = max x (best (L.drop (i + 1))) := by
  obtain ⟨hi, hx⟩ := List.getElem?_eq_some_iff.1 h
  rw [List.drop_eq_getElem_cons hi, hx, best_cons]

/-- The indices taken: the first with the missing length, and so on. -/
def pk : List Int → Int → Nat → List Nat
  | [], _, _ => []
  | h :: t, m, i => if h = m then i :: pk t (m - 1) (i + 1) else pk t m (i + 1)
theorem pk_drop {L : List Int} {k : Nat} {x : Int} (m : Int) (j : Nat) (h : L[k]? = some x) : pk (L.drop k) m j = if x = m then j :: pk (L.drop (k + 1)) (m - 1) (j + 1) else pk (L.drop (k + 1)) m (j + 1) := by
  obtain ⟨hi, hx⟩ := List.getElem?_eq_some_iff.1 h
  rw [List.drop_eq_getElem_cons hi, hx]; rfl
theorem pk_end {L : List Int} {k : Nat} (m : Int) (j : Nat) (h : L.length ≤ k) : pk (L.drop k) m j = [] := by rw [List.drop_eq_nil_of_le h]; rfl
theorem pk_zero : ∀ {L : List Int} {m : Int} {j : Nat}, (∀ a ∈ L, 1 ≤ a) → m ≤ 0 → pk L m j = []
  | [], _, _, _, _ => rfl
  | x :: L, m, j, h, hm => by
    have := h x List.mem_cons_self
    unfold pk
    rw [if_neg (by omega)]
    exact pk_zero (fun a ha => h a (List.mem_cons_of_mem _ ha)) hm
theorem pk_len : ∀ (L : List Int) (m : Int) (j : Nat), (pk L m j).length ≤ L.length
  | [], _, _ => by simp [pk]
  | x :: L, m, j => by
    unfold pk
    have h1 := pk_len L (m - 1) (j + 1)
    have h2 := pk_len L m (j + 1)
    split <;> simp <;> omega

/-- Something greater than v with this length comes. -/
def Comes (l : List Int) (v m : Int) : Prop := ∃ a ∈ l.zip (lis l), v < a.1 ∧ a.2 = m
theorem Comes.cons {x : Int} {l : List Int} {v m : Int} (h : Comes (x :: l) v m) : (v < x ∧ 1 + over x (l.zip (lis l)) = m) ∨ Comes l v m := by
  obtain ⟨a, ha, h1, h2⟩ := h
  rw [lis, List.zip_cons_cons] at ha
  rcases List.mem_cons.1 ha with rfl | ha
  · exact .inl ⟨h1, h2⟩
  · exact .inr ⟨a, ha, h1, h2⟩
/-- The first with the length is greater than what was taken before it. -/
theorem Comes.first {x : Int} {l : List Int} {v m : Int} (h : Comes (x :: l) v m) (hm : 1 + over x (l.zip (lis l)) = m) : v < x := by
  rcases h.cons with h | ⟨a, ha, h1, h2⟩
  · exact h.1
  · apply Classical.byContradiction
    intro hn
    have := over_mem (x := x) ha (by omega)
    omega
theorem Comes.skip {x : Int} {l : List Int} {v m : Int} (h : Comes (x :: l) v m) (hm : 1 + over x (l.zip (lis l)) ≠ m) : Comes l v m := by
  rcases h.cons with h | h
  · exact absurd h.2 hm
  · exact h
/-- Behind what is taken, the next comes. -/
theorem Comes.next {x : Int} {l : List Int} {m : Int} (hm : 1 + over x (l.zip (lis l)) = m) (h1 : 0 < m - 1) : Comes l x (m - 1) := by
  obtain ⟨a, ha, h2, h3⟩ := over_some (x := x) (z := l.zip (lis l)) (by omega)
  exact ⟨a, ha, h2, by omega⟩

/-- The answer. -/
def liL (l : List Int) : List Int := (pk (lis l) (best (lis l)) 0).map fun j : Nat => (j : Int)
def liF (l : List Int) : List Int × Bool := if OkL l then (liL l, true) else ([], false)
theorem liF_yes {l : List Int} (h : OkL l) : liF l = (liL l, true) := if_pos h
theorem liF_no {l : List Int} (h : ¬ OkL l) : liF l = ([], false) := if_neg h
theorem liF_len (l : List Int) : (liF l).1.length ≤ 1048576 := by
  by_cases h : OkL l
  · rw [liF_yes h]; simp only [liL, List.length_map]; have := h.1; have := pk_len (lis l) (best (lis l)) 0; rw [lis_length] at this; omega
  · rw [liF_no h]; simp

/-- As many as the best; at ascending places, with ascending values. -/
theorem pk_good : ∀ (l : List Int) (m : Int) (j : Nat), 0 ≤ m → m ≤ best (lis l) → ((pk (lis l) m j).length : Int) = m ∧ (∀ i ∈ pk (lis l) m j, j ≤ i ∧ i < j + l.length) ∧
    (pk (lis l) m j).Pairwise (fun a b => a < b ∧ l.getD (a - j) 0 < l.getD (b - j) 0) ∧ ∀ v, 0 < m → Comes l v m → ∀ i ∈ pk (lis l) m j, v < l.getD (i - j) 0
  | [], m, j, h0, h => by
    have : best (lis []) = 0 := rfl
    obtain rfl : m = 0 := by omega
    simp [lis, pk]
  | x :: l, m, j, h0, h => by
    rw [lis, best_cons] at h
    have hov := over_nonneg x (l.zip (lis l))
    have hlow : over x (l.zip (lis l)) ≤ best (lis l) := over_le.2 ⟨best_nonneg _, fun a ha _ => best_mem (List.of_mem_zip (a := a.1) (b := a.2) ha).2⟩
    have hsh : ∀ i, j + 1 ≤ i → (x :: l).getD (i - j) 0 = l.getD (i - (j + 1)) 0 := fun i hi => by rw [show i - j = (i - (j + 1)) + 1 by omega, List.getD_cons_succ]
    rw [lis]
    unfold pk
    by_cases hm : 1 + over x (l.zip (lis l)) = m
    · rw [if_pos hm]
      obtain ⟨h1, h2, h3, h4⟩ := pk_good l (m - 1) (j + 1) (by omega) (by omega)
      have hgt : ∀ i ∈ pk (lis l) (m - 1) (j + 1), x < l.getD (i - (j + 1)) 0 := fun i hi => by
        have hpos : 0 < m - 1 := by
          have := List.length_pos_of_mem hi
          omega
        exact h4 x hpos (Comes.next hm hpos) i hi
      refine ⟨by rw [List.length_cons]; omega, fun i hi => ?_, List.pairwise_cons.2 ⟨fun i hi => ?_, h3.imp_of_mem fun {a b} ha hb hab => ?_⟩, fun v hv hc i hi => ?_⟩
      · rcases List.mem_cons.1 hi with rfl | hi
        · simp
        · have := h2 i hi; simp; omega
      · have := h2 i hi
        rw [hsh i (by omega), Nat.sub_self]
        exact ⟨by omega, by simpa using hgt i hi⟩
      · have := h2 a ha; have := h2 b hb
        rw [hsh a (by omega), hsh b (by omega)]; exact hab
      · have hvx := hc.first hm
        rcases List.mem_cons.1 hi with rfl | hi
        · rw [Nat.sub_self]; simpa using hvx
        · have := h2 i hi; have := hgt i hi
          rw [hsh i (by omega)]; omega
    · rw [if_neg hm]
      obtain ⟨h1, h2, h3, h4⟩ := pk_good l m (j + 1) h0 (by omega)
      refine ⟨h1, fun i hi => ?_, h3.imp_of_mem fun {a b} ha hb hab => ?_, fun v hv hc i hi => ?_⟩
      · have := h2 i hi; simp; omega
      · have := h2 a ha; have := h2 b hb
        rw [hsh a (by omega), hsh b (by omega)]; exact hab
      · have := h2 i hi
        rw [hsh i (by omega)]
        exact h4 v hv (hc.skip hm) i hi

/-- An element is dealt. -/
def put (e : Int) : List (List Int) → List (List Int)
  | [] => [[e]]
  | p :: ps => if e ≤ p.getLastD 0 then (p ++ [e]) :: ps else p :: put e ps
/-- The same, of the tops alone. -/
def tput (e : Int) : List Int → List Int
  | [] => [e]
  | t :: ts => if e ≤ t then e :: ts else t :: tput e ts
def deal (l : List Int) : List (List Int) := l.foldl (fun ps e => put e ps) []
theorem put_tops (e : Int) : ∀ ps : List (List Int), (put e ps).map (fun p => p.getLastD 0) = tput e (ps.map fun p => p.getLastD 0)
  | [] => rfl
  | p :: ps => by
    unfold put
    rw [List.map_cons, tput]
    by_cases h : e ≤ p.getLastD 0
    · rw [if_pos h, if_pos h, List.map_cons]
      congr 1
      simp
    · rw [if_neg h, if_neg h, List.map_cons, put_tops e ps]
theorem put_perm (e : Int) : ∀ ps : List (List Int), (put e ps).flatten.Perm (e :: ps.flatten)
  | [] => by simp [put]
  | p :: ps => by
    unfold put
    split
    · rw [List.flatten_cons, List.flatten_cons, List.append_assoc]
      exact (List.perm_middle (l₁ := p) (l₂ := ps.flatten)).trans (List.Perm.refl _)
    · rw [List.flatten_cons, List.flatten_cons]
      exact ((put_perm e ps).append_left p).trans List.perm_middle
/-- A pile: not empty, and none greater than the one below it. -/
def Pile (p : List Int) : Prop := p ≠ [] ∧ ∀ k, k + 1 < p.length → p.getD (k + 1) 0 ≤ p.getD k 0
theorem put_piles {e : Int} : ∀ {ps : List (List Int)}, (∀ p ∈ ps, Pile p) → ∀ p ∈ put e ps, Pile p
  | [], _ => fun p hp => by
    rw [put, List.mem_singleton] at hp; subst hp
    exact ⟨by simp, fun k hk => by simp at hk⟩
  | q :: ps, h => fun p hp => by
    unfold put at hp
    by_cases c : e ≤ q.getLastD 0
    · rw [if_pos c] at hp
      rcases List.mem_cons.1 hp with rfl | hp
      · obtain ⟨h1, h2⟩ := h q List.mem_cons_self
        refine ⟨by simp, fun k hk => ?_⟩
        rw [List.length_append, List.length_singleton] at hk
        have hg : ∀ j, j < q.length → (q ++ [e]).getD j 0 = q.getD j 0 := fun j hj => by
          rw [List.getD_eq_getElem?_getD, List.getElem?_append_left hj, List.getD_eq_getElem?_getD]
        by_cases hk2 : k + 1 < q.length
        · rw [hg _ hk2, hg k (by omega)]; exact h2 k hk2
        · have e1 : k + 1 = q.length := by omega
          have e2 : (q ++ [e]).getD (k + 1) 0 = e := by rw [e1, List.getD_eq_getElem?_getD]; simp
          have e3 : q.getLastD 0 = q.getD k 0 := by
            rw [List.getLastD_eq_getLast?, List.getLast?_eq_getElem?, List.getD_eq_getElem?_getD, show q.length - 1 = k by omega]
          rw [e2, hg k (by omega), ← e3]; exact c
      · exact h p (List.mem_cons_of_mem _ hp)
    · rw [if_neg c] at hp
      rcases List.mem_cons.1 hp with rfl | hp
      · exact h p List.mem_cons_self
      · exact put_piles (fun p hp => h p (List.mem_cons_of_mem _ hp)) p hp

/-- How many tops are less. -/
def pos (ts : List Int) (x : Int) : Nat := ts.countP fun t => decide (t < x)
theorem tput_len (e : Int) : ∀ ts : List Int, ((tput e ts).length : Int) = max (ts.length : Int) (pos ts e + 1) ∨ ¬ ts.Pairwise (· < ·)
  | [] => .inl (by simp [tput, pos]; rfl)
  | t :: ts => by
    by_cases hs : (t :: ts).Pairwise (· < ·)
    · left
      obtain ⟨h1, h2⟩ := List.pairwise_cons.1 hs
      unfold tput
      by_cases h : e ≤ t
      · rw [if_pos h]
        have h3 : pos (t :: ts) e = 0 := List.countP_eq_zero.2 fun a ha => by
          rcases List.mem_cons.1 ha with rfl | ha
          · simp; omega
          · have := h1 a ha; simp; omega
        rw [h3]; simp; omega
      · rw [if_neg h]
        have h3 : pos (t :: ts) e = pos ts e + 1 := by unfold pos; rw [List.countP_cons, if_pos (by simp; omega)]
        rcases tput_len e ts with ih | ih
        · rw [h3, List.length_cons, List.length_cons]; omega
        · exact absurd h2 ih
    · exact .inr hs
theorem tput_mem {e : Int} : ∀ {ts : List Int} {a : Int}, a ∈ tput e ts → a = e ∨ a ∈ ts
  | [], a, h => by rw [tput, List.mem_singleton] at h; exact .inl h
  | t :: ts, a, h => by
    unfold tput at h
    split at h
    · rcases List.mem_cons.1 h with rfl | h
      · exact .inl rfl
      · exact .inr (List.mem_cons_of_mem _ h)
    · rcases List.mem_cons.1 h with rfl | h
      · exact .inr List.mem_cons_self
      · rcases tput_mem h with h | h
        · exact .inl h
        · exact .inr (List.mem_cons_of_mem _ h)
theorem tput_sorted {e : Int} : ∀ {ts : List Int}, ts.Pairwise (· < ·) → (tput e ts).Pairwise (· < ·)
  | [], _ => by simp [tput]
  | t :: ts, hs => by
    obtain ⟨h1, h2⟩ := List.pairwise_cons.1 hs
    unfold tput
    by_cases h : e ≤ t
    · rw [if_pos h]; exact List.pairwise_cons.2 ⟨fun a ha => by have := h1 a ha; omega, h2⟩
    · rw [if_neg h]
      refine List.pairwise_cons.2 ⟨fun a ha => ?_, tput_sorted h2⟩
      rcases tput_mem ha with rfl | ha
      · omega
      · exact h1 a ha
theorem pos_tput {e x : Int} : ∀ {ts : List Int}, ts.Pairwise (· < ·) → pos (tput e ts) x = if e < x then max (pos ts x) (pos ts e + 1) else pos ts x
  | [], _ => by
    unfold tput pos
    by_cases h : e < x <;> simp [h]
  | t :: ts, hs => by
    obtain ⟨h1, h2⟩ := List.pairwise_cons.1 hs
    have ih := pos_tput (e := e) (x := x) h2
    have hc : ∀ y, pos (t :: ts) y = (if t < y then 1 else 0) + pos ts y := fun y => by unfold pos; rw [List.countP_cons]; simp; omega
    have hz : ∀ y, ¬ t < y → pos ts y = 0 := fun y hy => List.countP_eq_zero.2 fun a ha => by have := h1 a ha; simp; omega
    unfold tput
    by_cases h : e ≤ t
    · rw [if_pos h, hc x, hc e, if_neg (by omega : ¬ t < e), hz e (by omega)]
      have : pos (e :: ts) x = (if e < x then 1 else 0) + pos ts x := by unfold pos; rw [List.countP_cons]; simp; omega
      rw [this]
      by_cases c : e < x
      · rw [if_pos c, if_pos c]
        by_cases d : t < x
        · rw [if_pos d]; omega
        · rw [if_neg d, hz x d]; omega
      · rw [if_neg c, if_neg c, if_neg (by omega : ¬ t < x)]
    · rw [if_neg h]
      have e2 : pos (t :: tput e ts) x = (if t < x then 1 else 0) + pos (tput e ts) x := by unfold pos; rw [List.countP_cons]; simp; omega
      rw [e2, ih, hc x, hc e, if_pos (by omega : t < e)]
      by_cases c : e < x
      · rw [if_pos c, if_pos c, if_pos (by omega : t < x)]; omega
      · rw [if_neg c, if_neg c]
/-- How many piles there will be. -/
theorem tops_le : ∀ (l ts : List Int) (b : Int), ts.Pairwise (· < ·) → (((l.foldl (fun ts e => tput e ts) ts).length : Int) ≤ b ↔ (ts.length : Int) ≤ b ∧ ∀ a ∈ l.zip (lis l), (pos ts a.1 : Int) + a.2 ≤ b)
  | [], ts, b, _ => by simp [lis]
  | x :: l, ts, b, hs => by
    rw [List.foldl_cons, tops_le l (tput x ts) b (tput_sorted hs)]
    have hlen : ((tput x ts).length : Int) = max (ts.length : Int) (pos ts x + 1) := by
      rcases tput_len x ts with h | h
      · exact h
      · exact absurd hs h
    rw [hlen, lis, List.zip_cons_cons, List.forall_mem_cons]
    constructor
    · rintro ⟨h1, h2⟩
      refine ⟨by omega, ?_, fun a ha => ?_⟩
      · have : over x (l.zip (lis l)) ≤ b - pos ts x - 1 := over_le.2 ⟨by omega, fun a ha hx => by
          have := h2 a ha
          rw [pos_tput hs, if_pos hx] at this
          omega⟩
        simp only; omega
      · have := h2 a ha
        rw [pos_tput hs] at this
        split at this <;> omega
    · rintro ⟨h1, h2, h3⟩
      simp only at h2
      have hov := over_nonneg x (l.zip (lis l))
      refine ⟨by omega, fun a ha => ?_⟩
      have h4 := h3 a ha
      rw [pos_tput hs]
      split
      · rename_i hx
        have := over_mem ha hx
        omega
      · exact h4
theorem deal_tops (l : List Int) : ∀ ps : List (List Int), (l.foldl (fun ps e => put e ps) ps).map (fun p => p.getLastD 0) = l.foldl (fun ts e => tput e ts) (ps.map fun p => p.getLastD 0) := by
  induction l with
  | nil => intro ps; rfl
  | cons x l ih => intro ps; rw [List.foldl_cons, List.foldl_cons, ih, put_tops]
/-- As many piles as a longest increasing subsequence has elements. -/
theorem deal_count (l : List Int) : ((deal l).length : Int) = best (lis l) := by
  have h1 : (deal l).length = (l.foldl (fun ts e => tput e ts) []).length := by
    have := congrArg List.length (deal_tops l [])
    rw [List.length_map] at this
    exact this
  rw [h1]
  have h2 := fun b => tops_le l [] b .nil
  have h3 : ∀ b : Int, ((l.foldl (fun ts e => tput e ts) []).length : Int) ≤ b ↔ best (lis l) ≤ b := fun b => by
    rw [h2 b, best_le]
    refine and_congr (by simp) ?_
    constructor
    · intro h a ha
      obtain ⟨i, hi, rfl⟩ := List.getElem_of_mem ha
      have hi2 : i < l.length := by rw [← lis_length l]; exact hi
      have := h (l[i], (lis l)[i]) (List.mem_iff_getElem?.2 ⟨i, by rw [List.getElem?_zip_eq_some]; exact ⟨List.getElem?_eq_getElem hi2, List.getElem?_eq_getElem hi⟩⟩)
      simpa [pos] using this
    · intro h a ha
      have := h a.2 (List.of_mem_zip (a := a.1) (b := a.2) ha).2
      simpa [pos] using this
  exact Int.le_antisymm ((h3 _).2 (Int.le_refl _)) ((h3 _).1 (Int.le_refl _))
theorem deal_good (l : List Int) : (deal l).flatten.Perm l ∧ ∀ p ∈ deal l, Pile p := by
  suffices h : ∀ ps : List (List Int), (∀ p ∈ ps, Pile p) → (l.foldl (fun ps e => put e ps) ps).flatten.Perm (ps.flatten ++ l) ∧ ∀ p ∈ l.foldl (fun ps e => put e ps) ps, Pile p from by
    have := h [] (by simp)
    simpa [deal] using this
  induction l with
  | nil => intro ps h; exact ⟨by simp, h⟩
  | cons x l ih =>
    intro ps h
    obtain ⟨h1, h2⟩ := ih (put x ps) (put_piles h)
    refine ⟨h1.trans ?_, h2⟩
    refine ((put_perm x ps).append_right l).trans ?_
    rw [List.cons_append]
    exact List.perm_middle.symm
def ppF (l : List Int) : List (List Int) × Bool := if OkL l then (deal l, true) else ([], false)
theorem ppF_yes {l : List Int} (h : OkL l) : ppF l = (deal l, true) := if_pos h
theorem ppF_no {l : List Int} (h : ¬ OkL l) : ppF l = ([], false) := if_neg h
/-- The first pile whose top is not less, by its index. -/
theorem put_at {e : Int} : ∀ {ps : List (List Int)} {k : Nat} {p : List Int}, ps[k]? = some p → (∀ j q, j < k → ps[j]? = some q → q.getLastD 0 < e) → e ≤ p.getLastD 0 → put e ps = ps.set k (p ++ [e])
  | [], k, p, h, _, _ => by simp at h
  | q :: ps, 0, p, h, _, hp => by
    simp at h; subst h
    unfold put; rw [if_pos hp]; rfl
  | q :: ps, k + 1, p, h, hl, hp => by
    have := hl 0 q (by omega) rfl
    unfold put
    rw [if_neg (by omega), List.set_cons_succ, put_at (k := k) (by simpa using h) (fun j r hj hr => hl (j + 1) r (by omega) (by simpa using hr)) hp]
theorem put_new {e : Int} : ∀ {ps : List (List Int)}, (∀ q ∈ ps, q.getLastD 0 < e) → put e ps = ps ++ [[e]]
  | [], _ => rfl
  | q :: ps, h => by
    have := h q List.mem_cons_self
    unfold put
    rw [if_neg (by omega), put_new (fun r hr => h r (List.mem_cons_of_mem _ hr))]; rfl
theorem deal_take {l : List Int} {k : Nat} {x : Int} (h : l[k]? = some x) : deal (l.take (k + 1)) = put x (deal (l.take k)) := by
  unfold deal
  rw [List.take_add_one, h, List.foldl_append]; rfl
theorem deal_total (l : List Int) : (deal l).flatten.length = l.length := (deal_good l).1.length_eq

end Iv
end Go.Proofs.Ytjlldjekjnlcaaa
