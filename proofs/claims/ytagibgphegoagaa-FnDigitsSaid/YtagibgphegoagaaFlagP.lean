/- Distribution in place by exchanges, bucket by bucket (the American flag): it ends, it keeps the elements, it groups them, and it finds nothing to do where they are grouped. Nothing of the program. -/
import Derived.Test.YtagibgphegoagaaRadP
import Derived.Test.YtagibgphegoagaaElem2
namespace Go.Proofs.Ytagibgphegoagaa
namespace Rx
open P El

def upd (nx : Nat → Nat) (d v : Nat) : Nat → Nat := fun k => if k = d then v else nx k
theorem upd_same (nx : Nat → Nat) (d v : Nat) : upd nx d v d = v := if_pos rfl
theorem upd_other (nx : Nat → Nat) {d k : Nat} (v : Nat) (h : k ≠ d) : upd nx d v k = nx k := if_neg h

/-- The list, the next index of each bucket, the exchanges so far. -/
structure FS where
  L : List Int
  nx : Nat → Nat
  sw : Nat

instance : Nonempty FS := ⟨⟨[], fun _ => 0, 0⟩⟩

def fst (f : Int → Nat) (b : Nat) (s : FS) : FS :=
  if f (s.L.getD (s.nx b) 0) = b then ⟨s.L, upd s.nx b (s.nx b + 1), s.sw⟩
  else ⟨swapped s.L (s.nx b) (s.nx (f (s.L.getD (s.nx b) 0))), upd s.nx (f (s.L.getD (s.nx b) 0)) (s.nx (f (s.L.getD (s.nx b) 0)) + 1), s.sw + 1⟩

/-- From bucket b with s on to the end: R. e: where each bucket ends. -/
inductive Fl (f : Int → Nat) (e : Nat → Nat) (E : Nat) : Nat → FS → FS → Prop
  | stop {s : FS} : Fl f e E E s s
  | next {b : Nat} {s R : FS} : b < E → ¬ s.nx b < e b → Fl f e E (b + 1) s R → Fl f e E b s R
  | step {b : Nat} {s R : FS} : b < E → s.nx b < e b → Fl f e E b (fst f b s) R → Fl f e E b s R

theorem Fl.le {f : Int → Nat} {e : Nat → Nat} {E b : Nat} {s R : FS} (h : Fl f e E b s R) : b ≤ E := by
  cases h with
  | stop => exact Nat.le_refl _
  | next h => omega
  | step h => omega
theorem Fl.atEnd {f : Int → Nat} {e : Nat → Nat} {E : Nat} {s R : FS} (h : Fl f e E E s R) : s = R := by
  cases h with
  | stop => rfl
  | next h => omega
  | step h => omega
theorem Fl.more {f : Int → Nat} {e : Nat → Nat} {E b : Nat} {s R : FS} (h : Fl f e E b s R) (hb : b < E) (hlt : s.nx b < e b) : Fl f e E b (fst f b s) R := by
  cases h with
  | stop => omega
  | next _ h => exact absurd hlt h
  | step _ _ h => exact h
theorem Fl.on {f : Int → Nat} {e : Nat → Nat} {E b : Nat} {s R : FS} (h : Fl f e E b s R) (hb : b < E) (hlt : ¬ s.nx b < e b) : Fl f e E (b + 1) s R := by
  cases h with
  | stop => omega
  | next _ _ h => exact h
  | step _ h => exact absurd h hlt
theorem Fl.uniq {f : Int → Nat} {e : Nat → Nat} {E b : Nat} {s R S : FS} (h : Fl f e E b s R) (k : Fl f e E b s S) : R = S := by
  induction h with
  | stop => exact k.atEnd
  | @next b s R hb hlt _ ih => exact ih (k.on hb hlt)
  | @step b s R hb hlt _ ih => exact ih (k.more hb hlt)
/-- Buckets that are done behind the last: nothing more. -/
theorem Fl.wide {f : Int → Nat} {e : Nat → Nat} {E E' b : Nat} {s R : FS} (h : Fl f e E b s R) (hE : E ≤ E') (hz : ∀ d, E ≤ d → d < E' → ¬ R.nx d < e d) : Fl f e E' b s R := by
  induction h with
  | @stop s =>
    have : ∀ k d, E ≤ d → d + k = E' → Fl f e E' d s s := by
      intro k
      induction k with
      | zero => intro d _ hd; obtain rfl : d = E' := by omega
                exact .stop
      | succ k ih => intro d h1 hd; exact .next (by omega) (hz d h1 (by omega)) (ih (d + 1) (by omega) (by omega))
    exact this (E' - E) E (Nat.le_refl _) (by omega)
  | @next b s R hb hlt _ ih => exact .next (by omega) hlt (ih hz)
  | @step b s R hb hlt _ ih => exact .step (by omega) hlt (ih hz)

/-- The total of what the buckets have. -/
def tot (f : Int → Nat) (l : List Int) (nx : Nat → Nat) : Nat → Nat
  | 0 => 0
  | D + 1 => tot f l nx D + (nx D - st f l D)

structure FGood (f : Int → Nat) (l : List Int) (D b : Nat) (s : FS) : Prop where
  perm : s.L.Perm l
  lo : ∀ d, st f l d ≤ s.nx d
  hi : ∀ d, d < D → s.nx d ≤ st f l (d + 1)
  far : ∀ d, D ≤ d → s.nx d = st f l d
  filled : ∀ d t, d < D → st f l d ≤ t → t < s.nx d → f (s.L.getD t 0) = d
  done : ∀ d, d < b → s.nx d = st f l (d + 1)
  sw : s.sw ≤ tot f l s.nx D

theorem tot_upd {f : Int → Nat} {l : List Int} {nx : Nat → Nat} {d : Nat} (hlo : st f l d ≤ nx d) : ∀ D, tot f l (upd nx d (nx d + 1)) D = tot f l nx D + if d < D then 1 else 0
  | 0 => rfl
  | D + 1 => by
    simp only [tot, tot_upd hlo D]
    by_cases h : d = D
    · subst h
      rw [upd_same, if_neg (by omega), if_pos (by omega)]; omega
    · rw [upd_other nx (nx d + 1) (show D ≠ d by omega)]
      by_cases h2 : d < D
      · rw [if_pos h2, if_pos (by omega)]; omega
      · rw [if_neg h2, if_neg (by omega)]; omega

theorem tot_le {f : Int → Nat} {l : List Int} {nx : Nat → Nat} : ∀ {D : Nat}, (∀ d, d < D → nx d ≤ st f l (d + 1)) → tot f l nx D ≤ st f l D
  | 0, _ => Nat.le_refl _
  | D + 1, h => by
    have h1 := tot_le (f := f) (l := l) (nx := nx) (D := D) fun d hd => h d (by omega)
    have h2 := h D (by omega)
    have h3 := st_succ f l D
    simp only [tot]
    omega

theorem cnt_perm {f : Int → Nat} {l L : List Int} (h : L.Perm l) (d : Nat) : cnt f L d = cnt f l d := (h.filter _).length_eq
theorem st_perm {f : Int → Nat} {l L : List Int} (h : L.Perm l) : ∀ d, st f L d = st f l d
  | 0 => rfl
  | d + 1 => by simp only [st, st_perm h d, cnt_perm h d]

/-- Places of one bucket in a row, and one more. -/
theorem cnt_ge {f : Int → Nat} {L : List Int} {d a c u : Nat} (hac : a ≤ c) (hc : c ≤ L.length) (h : ∀ t, a ≤ t → t < c → f (L.getD t 0) = d) (hu : u < L.length) (hout : u < a ∨ c ≤ u) (hfu : f (L.getD u 0) = d) : c - a + 1 ≤ cnt f L d := by
  have e : L = L.take a ++ ((L.drop a).take (c - a) ++ L.drop c) := by
    rw [show L.drop c = (L.drop a).drop (c - a) by rw [List.drop_drop]; congr 1; omega, List.take_append_drop, List.take_append_drop]
  have hm : ((L.drop a).take (c - a)).filter (fun x => f x == d) = (L.drop a).take (c - a) := by
    rw [List.filter_eq_self]
    intro x hx
    obtain ⟨j, hj, rfl⟩ := List.getElem_of_mem hx
    have hj' : j < c - a := by simp at hj; omega
    have := h (a + j) (by omega) (by omega)
    rw [List.getElem_take, List.getElem_drop]
    rw [List.getD_eq_getElem?_getD, List.getElem?_eq_getElem (show a + j < L.length by omega)] at this
    simpa using this
  have hml : ((L.drop a).take (c - a)).length = c - a := by simp; omega
  have hx : L[u]? = some (L.getD u 0) := by rw [List.getD_eq_getElem?_getD, List.getElem?_eq_getElem hu]; rfl
  have hpos : ∀ M : List Int, L.getD u 0 ∈ M → 1 ≤ (M.filter (fun x => f x == d)).length := fun M hM => List.length_pos_of_mem (List.mem_filter.2 ⟨hM, by simpa using hfu⟩)
  unfold cnt inB
  rw [e, List.filter_append, List.filter_append, hm, List.length_append, List.length_append, hml]
  rcases hout with ho | ho
  · have := hpos (L.take a) (List.mem_of_getElem? (i := u) (by rw [List.getElem?_take, if_pos ho]; exact hx))
    omega
  · have := hpos (L.drop c) (List.mem_of_getElem? (i := u - c) (by rw [List.getElem?_drop, show c + (u - c) = u by omega]; exact hx))
    omega

theorem getD_mem {L : List Int} {t : Nat} (h : t < L.length) : L.getD t 0 ∈ L := by
  rw [List.getD_eq_getElem?_getD, List.getElem?_eq_getElem h]; exact List.getElem_mem h

/-- What a round finds. -/
structure Found (f : Int → Nat) (l : List Int) (D b : Nat) (s : FS) : Prop where
  cur : s.nx b < l.length
  dig : f (s.L.getD (s.nx b) 0) < D
  room : s.nx (f (s.L.getD (s.nx b) 0)) < st f l (f (s.L.getD (s.nx b) 0) + 1)
  into : s.nx (f (s.L.getD (s.nx b) 0)) < l.length

theorem FGood.found {f : Int → Nat} {l : List Int} {D b : Nat} {s : FS} (hD : ∀ x ∈ l, f x < D) (h : FGood f l D b s) (hb : b < D) (hlt : s.nx b < st f l (b + 1)) : Found f l D b s := by
  have hn := bk_len hD
  have hbn := st_mono f l (show b + 1 ≤ D by omega)
  have hlen := h.perm.length_eq
  have hcur : s.nx b < l.length := by omega
  have hdig : f (s.L.getD (s.nx b) 0) < D := hD _ (h.perm.mem_iff.1 (getD_mem (by omega)))
  have hroom : s.nx (f (s.L.getD (s.nx b) 0)) < st f l (f (s.L.getD (s.nx b) 0) + 1) := by
    obtain ⟨d, hd⟩ : ∃ d, d = f (s.L.getD (s.nx b) 0) := ⟨_, rfl⟩
    rw [← hd] at hdig ⊢
    by_cases hdb : d = b
    · rw [hdb]; exact hlt
    · have h1 := h.hi d hdig
      have h2 := h.lo d
      have h3 := st_mono f l (show d + 1 ≤ D by omega)
      have h4 : s.nx b < st f l d ∨ s.nx d ≤ s.nx b := by
        have h5 := h.lo b
        rcases Nat.lt_or_gt_of_ne hdb with hx | hx
        · have := st_mono f l (show d + 1 ≤ b by omega); omega
        · have := st_mono f l (show b + 1 ≤ d by omega); omega
      have h6 := cnt_ge (f := f) (L := s.L) (d := d) h2 (by omega) (fun t ht1 ht2 => h.filled d t hdig ht1 ht2) (show s.nx b < s.L.length by omega) h4 hd.symm
      rw [cnt_perm h.perm] at h6
      have h7 := st_succ f l d
      omega
  have hDn := st_mono f l (show f (s.L.getD (s.nx b) 0) + 1 ≤ D by omega)
  exact ⟨hcur, hdig, hroom, by omega⟩

theorem swapped_getD {L : List Int} {i k t : Nat} (hi : i < L.length) (hk : k < L.length) : (swapped L i k).getD t 0 = if t = k then L.getD i 0 else if t = i then L.getD k 0 else L.getD t 0 := by
  unfold swapped
  simp only [List.getD_eq_getElem?_getD]
  rw [List.getElem?_set, List.getElem?_set]
  by_cases h1 : t = k
  · subst h1; simp [hk]
  · by_cases h2 : t = i
    · subst h2; rw [if_neg (fun e => h1 e.symm), if_pos rfl, if_pos hi, if_neg h1, if_pos rfl]; rfl
    · rw [if_neg (fun e => h1 e.symm), if_neg (fun e => h2 e.symm), if_neg h1, if_neg h2]

theorem FGood.step {f : Int → Nat} {l : List Int} {D b : Nat} {s : FS} (hD : ∀ x ∈ l, f x < D) (h : FGood f l D b s) (hb : b < D) (hlt : s.nx b < st f l (b + 1)) : FGood f l D b (fst f b s) ∧ tot f l (fst f b s).nx D = tot f l s.nx D + 1 := by
  have F := h.found hD hb hlt
  have hlen := h.perm.length_eq
  obtain ⟨d, hd⟩ : ∃ d, d = f (s.L.getD (s.nx b) 0) := ⟨_, rfl⟩
  have hdig := F.dig
  have hroom := F.room
  have hinto := F.into
  have hcur := F.cur
  unfold fst
  rw [← hd] at hdig hroom hinto ⊢
  have hnx : ∀ k v, s.nx k ≤ v → (∀ q, s.nx q ≤ upd s.nx k v q) := fun k v hv q => by
    by_cases hq : q = k
    · rw [hq, upd_same]; exact hv
    · rw [upd_other _ _ hq]; exact Nat.le_refl _
  have hlo2 : ∀ q, st f l q ≤ upd s.nx d (s.nx d + 1) q := fun q => Nat.le_trans (h.lo q) (hnx d (s.nx d + 1) (by omega) q)
  have hhi2 : ∀ q, q < D → upd s.nx d (s.nx d + 1) q ≤ st f l (q + 1) := fun q hq => by
    by_cases e : q = d
    · rw [e, upd_same]; omega
    · rw [upd_other _ _ e]; exact h.hi q hq
  have hfar2 : ∀ q, D ≤ q → upd s.nx d (s.nx d + 1) q = st f l q := fun q hq => by
    rw [upd_other _ _ (show q ≠ d by omega)]; exact h.far q hq
  have hdone2 : ∀ q, q < b → upd s.nx d (s.nx d + 1) q = st f l (q + 1) := fun q hq => by
    by_cases e : q = d
    · have := h.done q hq
      rw [e] at this; omega
    · rw [upd_other _ _ e]; exact h.done q hq
  have htot := tot_upd (f := f) (l := l) (nx := s.nx) (d := d) (h.lo d) D
  rw [if_pos hdig] at htot
  by_cases hdb : d = b
  · rw [if_pos hdb]
    rw [hdb] at hlo2 hhi2 hfar2 hdone2 htot
    refine ⟨⟨h.perm, hlo2, hhi2, hfar2, fun q t hq ht1 ht2 => ?_, hdone2, ?_⟩, htot⟩
    · by_cases e : q = b ∧ t = s.nx b
      · simp only
        rw [e.2, ← hd, hdb, e.1]
      · refine h.filled q t hq ht1 ?_
        by_cases e2 : q = b
        · rw [e2] at ht2 ⊢
          simp only [upd_same] at ht2
          omega
        · simp only at ht2
          rwa [upd_other _ _ e2] at ht2
    · have := h.sw
      simp only
      omega
  · rw [if_neg hdb]
    have hnb : s.nx b ≠ s.nx d := by
      have h1 := h.lo b
      have h2 := h.lo d
      rcases Nat.lt_or_gt_of_ne hdb with hx | hx
      · have := st_mono f l (show d + 1 ≤ b by omega); omega
      · have := st_mono f l (show b + 1 ≤ d by omega); omega
    refine ⟨⟨(swapped_perm (by omega) (by omega)).trans h.perm, hlo2, hhi2, hfar2, fun q t hq ht1 ht2 => ?_, hdone2, ?_⟩, htot⟩
    · simp only at ht2 ⊢
      rw [swapped_getD (by omega) (by omega)]
      by_cases e1 : t = s.nx d
      · rw [if_pos e1, ← hd]
        -- the bucket that holds nx d is d
        have h1 := h.lo d
        rcases Nat.lt_trichotomy d q with hx | hx | hx
        · have := st_mono f l (show d + 1 ≤ q by omega); omega
        · exact hx
        · have h3 := hhi2 q hq
          have := st_mono f l (show q + 1 ≤ d by omega); omega
      · rw [if_neg e1]
        have ht3 : t < s.nx q := by
          by_cases e2 : q = d
          · rw [e2, upd_same] at ht2; rw [e2]; omega
          · rwa [upd_other _ _ e2] at ht2
        have e3 : t ≠ s.nx b := by
          intro e
          have h1 := h.lo b
          have h2 := h.hi q hq
          rcases Nat.lt_trichotomy b q with hx | hx | hx
          · have := st_mono f l (show b + 1 ≤ q by omega); omega
          · rw [← hx] at ht3; omega
          · have := st_mono f l (show q + 1 ≤ b by omega); omega
        rw [if_neg e3]
        exact h.filled q t hq ht1 ht3
    · have := h.sw
      simp only
      omega

theorem FGood.next {f : Int → Nat} {l : List Int} {D b : Nat} {s : FS} (h : FGood f l D b s) (hb : b < D) (hlt : ¬ s.nx b < st f l (b + 1)) : FGood f l D (b + 1) s :=
  ⟨h.perm, h.lo, h.hi, h.far, h.filled, fun d hd => by
    by_cases e : d = b
    · subst e; have := h.hi d hb; omega
    · exact h.done d (by omega), h.sw⟩

theorem FGood.start (f : Int → Nat) (l : List Int) (D : Nat) : FGood f l D 0 ⟨l, st f l, 0⟩ :=
  ⟨List.Perm.refl _, fun _ => Nat.le_refl _, fun d _ => st_mono f l (Nat.le_succ d), fun _ _ => rfl, fun d t _ h1 h2 => by simp only at h2; omega, fun d h => by omega, by simp only; exact Nat.zero_le _⟩

/-- It ends, and at the end all buckets are full. -/
theorem FGood.ends {f : Int → Nat} {l : List Int} {D : Nat} (hD : ∀ x ∈ l, f x < D) : ∀ (n b : Nat) (s : FS), (D - b) + (l.length - tot f l s.nx D) ≤ n → b ≤ D → FGood f l D b s →
    ∃ R, Fl f (fun d => st f l (d + 1)) D b s R ∧ FGood f l D D R
  | 0, b, s, hn, hbD, h => by
    obtain rfl : b = D := by omega
    exact ⟨s, .stop, h⟩
  | n + 1, b, s, hn, hbD, h => by
    by_cases hb : b < D
    · by_cases hlt : s.nx b < st f l (b + 1)
      · obtain ⟨h1, h2⟩ := h.step hD hb hlt
        have h3 := tot_le h1.hi
        rw [bk_len hD] at h3
        obtain ⟨R, hR, hG⟩ := FGood.ends hD n b (fst f b s) (by omega) hbD h1
        exact ⟨R, .step hb hlt hR, hG⟩
      · obtain ⟨R, hR, hG⟩ := FGood.ends hD n (b + 1) s (by omega) (by omega) (h.next hb hlt)
        exact ⟨R, .next hb hlt hR, hG⟩
    · obtain rfl : b = D := by omega
      exact ⟨s, .stop, h⟩

theorem flag_ends {f : Int → Nat} {l : List Int} {D : Nat} (hD : ∀ x ∈ l, f x < D) : ∃ R, Fl f (fun d => st f l (d + 1)) D 0 ⟨l, st f l, 0⟩ R ∧ FGood f l D D R :=
  FGood.ends hD _ 0 _ (Nat.le_refl _) (Nat.zero_le _) (FGood.start f l D)

/-- Grouped, and no more exchanges than elements. -/
theorem FGood.grouped {f : Int → Nat} {l : List Int} {D : Nat} {R : FS} (hD : ∀ x ∈ l, f x < D) (h : FGood f l D D R) : (∀ d t, d < D → st f l d ≤ t → t < st f l (d + 1) → f (R.L.getD t 0) = d) ∧ R.sw ≤ l.length := by
  refine ⟨fun d t hd h1 h2 => h.filled d t hd h1 (by rw [h.done d hd]; exact h2), ?_⟩
  have h1 := h.sw
  have h2 := tot_le h.hi
  rw [bk_len hD] at h2
  omega

theorem FGood.sorted {f : Int → Nat} {l : List Int} {D : Nat} {R : FS} (hD : ∀ x ∈ l, f x < D) (h : FGood f l D D R) {i k : Nat} (hik : i ≤ k) (hk : k < l.length) : f (R.L.getD i 0) ≤ f (R.L.getD k 0) := by
  obtain ⟨hg, _⟩ := h.grouped hD
  rw [← bk_len hD] at hk
  obtain ⟨d, j, hd, hj, rfl⟩ := place_in (f := f) (l := l) hk
  obtain ⟨d', j', hd', hj', hi⟩ := place_in (f := f) (l := l) (D := D) (t := i) (by
    have := st_mono f l (show d + 1 ≤ D by omega); rw [st_succ] at this; omega)
  have e1 := hg d (st f l d + j) hd (by omega) (by rw [st_succ]; omega)
  have e2 := hg d' (st f l d' + j') hd' (by omega) (by rw [st_succ]; omega)
  rw [hi, e1, e2]
  rcases Nat.lt_or_ge d d' with hx | hx
  · have := st_mono f l (show d + 1 ≤ d' by omega)
    rw [st_succ] at this; omega
  · exact hx

/-- Where the elements are grouped, nothing is exchanged. -/
theorem Fl.idle {f : Int → Nat} {l : List Int} {D : Nat} (hg : ∀ d t, d < D → st f l d ≤ t → t < st f l (d + 1) → f (l.getD t 0) = d) {b : Nat} {s R : FS} (h : Fl f (fun d => st f l (d + 1)) D b s R) : s.L = l → (∀ d, st f l d ≤ s.nx d) → R.L = l ∧ R.sw = s.sw := by
  induction h with
  | stop => exact fun h1 _ => ⟨h1, rfl⟩
  | @next b s R hb hlt _ ih => exact ih
  | @step b s R hb hlt _ ih =>
    intro h1 h2
    have e : f (s.L.getD (s.nx b) 0) = b := by rw [h1]; exact hg b _ hb (h2 b) hlt
    have es : fst f b s = ⟨s.L, upd s.nx b (s.nx b + 1), s.sw⟩ := by unfold fst; rw [if_pos e]
    rw [es] at ih
    have := ih h1 (fun d => by
      simp only
      by_cases hq : d = b
      · rw [hq, upd_same]; have := h2 b; omega
      · rw [upd_other _ _ hq]; exact h2 d)
    exact this

/-- The pass: what it leaves. -/
noncomputable def flagR (f : Int → Nat) (D : Nat) (l : List Int) : FS := Classical.epsilon fun R => Fl f (fun d => st f l (d + 1)) D 0 ⟨l, st f l, 0⟩ R
theorem flagR_is {f : Int → Nat} {l : List Int} {D : Nat} (hD : ∀ x ∈ l, f x < D) : Fl f (fun d => st f l (d + 1)) D 0 ⟨l, st f l, 0⟩ (flagR f D l) ∧ FGood f l D D (flagR f D l) := by
  obtain ⟨R, hR, hG⟩ := flag_ends hD
  have h : Fl f (fun d => st f l (d + 1)) D 0 ⟨l, st f l, 0⟩ (flagR f D l) := Classical.epsilon_spec (p := fun R => Fl f (fun d => st f l (d + 1)) D 0 ⟨l, st f l, 0⟩ R) ⟨R, hR⟩
  exact ⟨h, by rw [← hR.uniq h]; exact hG⟩

theorem FGood.ne {f : Int → Nat} {l : List Int} {D b d : Nat} {s : FS} (h : FGood f l D b s) (hlt : s.nx b < st f l (b + 1)) (hroom : s.nx d < st f l (d + 1)) (hdb : d ≠ b) : s.nx b ≠ s.nx d := by
  have h1 := h.lo b
  have h2 := h.lo d
  rcases Nat.lt_or_gt_of_ne hdb with hx | hx
  · have := st_mono f l (show d + 1 ≤ b by omega); omega
  · have := st_mono f l (show b + 1 ≤ d by omega); omega

theorem FGood.nx_le {f : Int → Nat} {l : List Int} {D b : Nat} {s : FS} (hD : ∀ x ∈ l, f x < D) (h : FGood f l D b s) {d : Nat} (hd : d < D) : s.nx d ≤ l.length := by
  have h1 := bk_len hD
  have h2 := h.hi d hd
  have h3 := st_mono f l (show d + 1 ≤ D by omega)
  omega
theorem FGood.sw_le {f : Int → Nat} {l : List Int} {D b : Nat} {s : FS} (hD : ∀ x ∈ l, f x < D) (h : FGood f l D b s) : s.sw ≤ l.length := by
  have h1 := h.sw
  have h2 := tot_le h.hi
  rw [bk_len hD] at h2
  omega
theorem st_le {f : Int → Nat} {l : List Int} {D d : Nat} (hD : ∀ x ∈ l, f x < D) (hd : d ≤ D) : st f l d ≤ l.length := by
  rw [← bk_len hD]; exact st_mono f l hd
theorem cnt_le (f : Int → Nat) (l : List Int) (d : Nat) : cnt f l d ≤ l.length := by unfold cnt inB; exact List.length_filter_le _ _
/-- The counts, one place on. -/
def nx1 (f : Int → Nat) (l : List Int) : Nat → Nat
  | 0 => 0
  | d + 1 => cnt f l d
/-- Summed up as far as k. -/
def nx2 (f : Int → Nat) (l : List Int) (k : Nat) : Nat → Nat := fun j => if j ≤ k then st f l j else nx1 f l j
theorem nx2_zero (f : Int → Nat) (l : List Int) (j : Nat) : nx1 f l j = nx2 f l 0 j := by
  unfold nx2
  by_cases h : j ≤ 0
  · obtain rfl : j = 0 := by omega
    rfl
  · rw [if_neg h]
theorem nx2_step (f : Int → Nat) (l : List Int) (k : Nat) : nx2 f l k (k + 1) = cnt f l k ∧ nx2 f l k k = st f l k ∧ ∀ j, (if j = k + 1 then st f l (k + 1) else nx2 f l k j) = nx2 f l (k + 1) j := by
  refine ⟨by unfold nx2; rw [if_neg (by omega)]; rfl, by unfold nx2; rw [if_pos (Nat.le_refl _)], fun j => ?_⟩
  unfold nx2
  by_cases h : j = k + 1
  · rw [if_pos h, if_pos (by omega), h]
  · rw [if_neg h]
    by_cases h2 : j ≤ k
    · rw [if_pos h2, if_pos (by omega)]
    · rw [if_neg h2, if_neg (by omega)]

/-- A second pass finds nothing to do. -/
theorem flag_again {f : Int → Nat} {l : List Int} {D : Nat} (hD : ∀ x ∈ l, f x < D) : (flagR f D (flagR f D l).L).L = (flagR f D l).L ∧ (flagR f D (flagR f D l).L).sw = 0 := by
  obtain ⟨_, hG⟩ := flagR_is hD
  generalize flagR f D l = R at *
  have hD2 : ∀ x ∈ R.L, f x < D := fun x hx => hD x (hG.perm.mem_iff.1 hx)
  obtain ⟨h1, _⟩ := flagR_is hD2
  have hg := (hG.grouped hD).1
  have h2 := Fl.idle (l := R.L) (fun d t hd ha hb => hg d t hd (by rw [← st_perm hG.perm]; exact ha) (by rw [← st_perm hG.perm]; exact hb)) h1 rfl (fun d => Nat.le_refl _)
  exact h2

/-- More buckets, all of them empty, change nothing. -/
theorem flagR_wide {f : Int → Nat} {l : List Int} {D E : Nat} (hD : ∀ x ∈ l, f x < D) (hE : D ≤ E) : Fl f (fun d => st f l (d + 1)) E 0 ⟨l, st f l, 0⟩ (flagR f D l) := by
  obtain ⟨h1, h2⟩ := flagR_is hD
  refine h1.wide hE fun d hd _ => ?_
  have h3 := h2.far d hd
  have h4 : cnt f l d = 0 := by
    unfold cnt inB
    rw [List.length_eq_zero_iff, List.filter_eq_nil_iff]
    intro x hx
    have := hD x hx
    simp only [beq_iff_eq]; omega
  show ¬ (flagR f D l).nx d < st f l (d + 1)
  rw [h3, st_succ, h4]; omega

end Rx
end Go.Proofs.Ytagibgphegoagaa
