/- Permutations of numbers: their inverses, compositions, ranks, cycles and signs. Nothing of the program. -/
namespace Go.Proofs.Ythmcjmjkmmbepaa
set_option linter.unusedVariables false
namespace P

/-- A permutation of at most 64 elements. -/
def OkP (p : List Int) : Prop := p.length ≤ 64 ∧ (∀ x ∈ p, 0 ≤ x ∧ x < p.length) ∧ p.Nodup
instance (p : List Int) : Decidable (OkP p) := by unfold OkP; exact inferInstance

/-- No fault among the first k elements. -/
def GoodTo (p : List Int) (k : Nat) : Prop := (∀ x ∈ p.take k, 0 ≤ x ∧ x < p.length) ∧ (p.take k).Nodup

/-- Which of 0..n-1 stand among the first k elements. -/
def seenTo (p : List Int) (k n : Nat) : List Bool := (List.range n).map fun j : Nat => decide ((j : Int) ∈ p.take k)

theorem seenTo_length (p : List Int) (k n : Nat) : (seenTo p k n).length = n := by simp [seenTo]
theorem seenTo_zero (p : List Int) (n : Nat) : seenTo p 0 n = List.replicate n false := by
  unfold seenTo
  apply List.ext_getElem (by simp)
  intro i h1 h2; simp
theorem seenTo_at {p : List Int} {k n j : Nat} (h : j < n) : (seenTo p k n)[j]? = some (decide ((j : Int) ∈ p.take k)) := by
  unfold seenTo; simp [h]
theorem seenTo_set {p : List Int} {k n e : Nat} (h : p[k]? = some (e : Int)) : (seenTo p k n).set e true = seenTo p (k + 1) n := by
  apply List.ext_getElem? 
  intro j
  rw [List.getElem?_set, seenTo_length]
  by_cases hj : j < n
  · rw [seenTo_at hj, seenTo_at hj, List.take_add_one, h]
    by_cases he : e = j
    · subst he; simp [hj]
    · rw [if_neg he]
      have : ¬ (j : Int) = e := by omega
      simp [this]
  · by_cases he : e = j
    · subst he; simp [hj]; unfold seenTo; simp; omega
    · rw [if_neg he]; unfold seenTo; simp [hj]

theorem GoodTo.zero (p : List Int) : GoodTo p 0 := ⟨by simp, by simp⟩
theorem GoodTo.step {p : List Int} {k : Nat} {x : Int} (h : GoodTo p k) (hx : p[k]? = some x) (h0 : 0 ≤ x) (h1 : x < p.length) (hn : ¬ x ∈ p.take k) : GoodTo p (k + 1) := by
  unfold GoodTo at *
  rw [List.take_add_one, hx]
  refine ⟨fun y hy => ?_, ?_⟩
  · rcases List.mem_append.1 hy with h' | h'
    · exact h.1 y h'
    · simp at h'; subst h'; exact ⟨h0, h1⟩
  · refine List.nodup_append.2 ⟨h.2, by simp, fun a ha b hb => ?_⟩
    simp at hb; subst hb
    intro e; subst e; exact hn ha
theorem GoodTo.all {p : List Int} (h : GoodTo p p.length) (h64 : p.length ≤ 64) : OkP p := by
  unfold GoodTo at h; rw [List.take_length] at h
  exact ⟨h64, h⟩
theorem OkP.notRange {p : List Int} {k : Nat} {x : Int} (hx : p[k]? = some x) (h : x < 0 ∨ (p.length : Int) ≤ x) : ¬ OkP p := fun hp => by
  have := hp.2.1 x (List.mem_of_getElem? hx); omega
theorem OkP.notTwice {p : List Int} {k : Nat} {x : Int} (hx : p[k]? = some x) (h : x ∈ p.take k) : ¬ OkP p := fun hp => by
  have hk := (List.getElem?_eq_some_iff.1 hx).1
  have hn := hp.2.2
  rw [← List.take_append_drop k p, List.nodup_append] at hn
  refine hn.2.2 x h x ?_ rfl
  rw [List.drop_eq_getElem_cons hk]
  have := (List.getElem?_eq_some_iff.1 hx).2
  rw [this]; simp

theorem OkP.at {p : List Int} (h : OkP p) {k : Nat} {x : Int} (hx : p[k]? = some x) : 0 ≤ x ∧ x < p.length := h.2.1 x (List.mem_of_getElem? hx)
theorem OkP.notBefore {p : List Int} (h : OkP p) {k : Nat} {x : Int} (hx : p[k]? = some x) : ¬ x ∈ p.take k := fun hh => OkP.notTwice hx hh h

/-- The inverse, so far. -/
def invTo (p : List Int) (k : Nat) : List Int := (List.range p.length).map fun j : Nat => if (j : Int) ∈ p.take k then ((p.idxOf (j : Int) : Nat) : Int) else 0
theorem invTo_length (p : List Int) (k : Nat) : (invTo p k).length = p.length := by simp [invTo]
theorem invTo_zero (p : List Int) : invTo p 0 = List.replicate p.length 0 := by
  unfold invTo
  apply List.ext_getElem (by simp)
  intro i h1 h2; simp
theorem idxOf_at {p : List Int} {k : Nat} {x : Int} (hx : p[k]? = some x) (hn : ¬ x ∈ p.take k) : p.idxOf x = k := by
  obtain ⟨hk, e⟩ := List.getElem?_eq_some_iff.1 hx
  have : p = p.take k ++ x :: p.drop (k + 1) := by
    rw [← e, ← List.drop_eq_getElem_cons hk, List.take_append_drop]
  rw [this, List.idxOf_append, if_neg hn]
  simp; omega
theorem invTo_set {p : List Int} (h : OkP p) {k e : Nat} (hx : p[k]? = some (e : Int)) : (invTo p k).set e (k : Int) = invTo p (k + 1) := by
  have hn := h.notBefore hx
  have hi := idxOf_at hx hn
  apply List.ext_getElem?
  intro j
  rw [List.getElem?_set, invTo_length]
  by_cases hj : j < p.length
  · unfold invTo
    by_cases he : e = j
    · subst he
      simp [hj, List.take_add_one, hx, hi]
    · rw [if_neg he]
      have h2 : ¬ (j : Int) = e := by omega
      simp [hj, List.take_add_one, hx, h2]
  · by_cases he : e = j
    · subst he; simp [hj]; unfold invTo; simp; omega
    · rw [if_neg he]; unfold invTo; simp [hj]

/-- The inverse and whether there is one. -/
def invF (p : List Int) : List Int × Bool := if OkP p then (invTo p p.length, true) else ([], false)
theorem invF_yes {p : List Int} (h : OkP p) : invF p = (invTo p p.length, true) := if_pos h
theorem invF_no {p : List Int} (h : ¬ OkP p) : invF p = ([], false) := if_neg h
theorem invF_len (p : List Int) : (invF p).1.length ≤ 1048576 := by
  unfold invF; split
  · rename_i h; simp only [invTo_length]; have := h.1; omega
  · simp

/-- The elements of l at the indices, so far, and 0 for the others. -/
def pickAt (l idx : List Int) : List Int := idx.map fun i => l.getD i.toNat 0
theorem pickAt_length (l idx : List Int) : (pickAt l idx).length = idx.length := by simp [pickAt]
theorem pickAt_at {l idx : List Int} {k e : Nat} {x : Int} (hi : idx[k]? = some (e : Int)) (hx : l[e]? = some x) : (pickAt l idx)[k]? = some x := by
  unfold pickAt; simp [hi, hx]
theorem pickAt_take {l idx : List Int} {k e : Nat} {x : Int} (hi : idx[k]? = some (e : Int)) (hx : l[e]? = some x) : pickAt l (idx.take (k + 1)) = pickAt l (idx.take k) ++ [x] := by
  unfold pickAt; rw [List.take_add_one, hi]; simp [hx]

def compF (p q : List Int) : List Int × Bool := if OkP p ∧ OkP q ∧ p.length = q.length then (pickAt p q, true) else ([], false)
theorem compF_yes {p q : List Int} (h : OkP p ∧ OkP q ∧ p.length = q.length) : compF p q = (pickAt p q, true) := if_pos h
theorem compF_no {p q : List Int} (h : ¬ (OkP p ∧ OkP q ∧ p.length = q.length)) : compF p q = ([], false) := if_neg h
theorem compF_len (p q : List Int) : (compF p q).1.length ≤ 1048576 := by
  unfold compF; split
  · rename_i h; simp only [pickAt_length]; have := h.2.1.1; omega
  · simp

end P
namespace P

def fact : Nat → Nat
  | 0 => 1
  | n + 1 => (n + 1) * fact n
theorem fact_succ (n : Nat) : fact (n + 1) = (n + 1) * fact n := rfl
theorem fact_pos : ∀ n, 0 < fact n
  | 0 => by simp [fact]
  | n + 1 => by rw [fact_succ]; exact Nat.mul_pos (by omega) (fact_pos n)
theorem fact_mono {m n : Nat} (h : m ≤ n) : fact m ≤ fact n := by
  induction h with
  | refl => exact Nat.le_refl _
  | step _ ih => rw [fact_succ]; exact Nat.le_trans ih (Nat.le_mul_of_pos_left _ (by omega))
theorem fact_step {n i : Nat} (h : i < n) : fact (n - i) = (n - i) * fact (n - 1 - i) := by
  obtain ⟨m, hm⟩ : ∃ m, n - i = m + 1 := ⟨n - i - 1, by omega⟩
  rw [hm, show n - 1 - i = m by omega]; rfl
theorem fact10 : fact 10 = 3628800 := by decide

/-- How many of the later elements are less than the one at i. -/
def later (p : List Int) (i : Nat) : Nat := (p.drop (i + 1)).countP (fun y => decide (y < p.getD i 0))
theorem later_le (p : List Int) (i : Nat) : later p i ≤ p.length - 1 - i := by
  unfold later
  refine Nat.le_trans List.countP_le_length ?_
  simp; omega

/-- The rank, by Horner's rule. -/
def hornTo (n : Nat) (d : Nat → Nat) : Nat → Nat
  | 0 => 0
  | i + 1 => hornTo n d i * (n - i) + d i
/-- The rank, as a sum. -/
def sumTo (n : Nat) (d : Nat → Nat) : Nat → Nat
  | 0 => 0
  | i + 1 => sumTo n d i + d i * fact (n - 1 - i)
theorem horn_succ (n : Nat) (d : Nat → Nat) (i : Nat) : hornTo n d (i + 1) = hornTo n d i * (n - i) + d i := rfl
theorem sum_succ (n : Nat) (d : Nat → Nat) (i : Nat) : sumTo n d (i + 1) = sumTo n d i + d i * fact (n - 1 - i) := rfl
theorem horn_sum (n : Nat) (d : Nat → Nat) : ∀ i, i ≤ n → hornTo n d i * fact (n - i) = sumTo n d i
  | 0, _ => by simp [hornTo, sumTo]
  | i + 1, h => by
    have ih := horn_sum n d i (by omega)
    rw [horn_succ, sum_succ, ← ih, fact_step (show i < n by omega), show n - (i + 1) = n - 1 - i by omega, Nat.add_mul, Nat.mul_assoc]
theorem horn_all (n : Nat) (d : Nat → Nat) : hornTo n d n = sumTo n d n := by
  have := horn_sum n d n (Nat.le_refl _)
  rw [Nat.sub_self] at this
  simpa [fact] using this
theorem horn_bound (n : Nat) (d : Nat → Nat) (hd : ∀ i, i < n → d i ≤ n - 1 - i) : ∀ i, i ≤ n → (hornTo n d i + 1) * fact (n - i) ≤ fact n
  | 0, _ => by simp [hornTo]
  | i + 1, h => by
    have ih := horn_bound n d hd i (by omega)
    have h1 := hd i (by omega)
    refine Nat.le_trans ?_ ih
    rw [fact_step (show i < n by omega), show n - (i + 1) = n - 1 - i by omega, ← Nat.mul_assoc]
    refine Nat.mul_le_mul_right _ ?_
    rw [horn_succ]
    have : (hornTo n d i + 1) * (n - i) = hornTo n d i * (n - i) + (n - i) := by rw [Nat.add_mul, Nat.one_mul]
    omega
theorem horn_lt (n : Nat) (d : Nat → Nat) (hd : ∀ i, i < n → d i ≤ n - 1 - i) (i : Nat) (h : i ≤ n) : hornTo n d i < fact n := by
  have h1 := horn_bound n d hd i h
  have h2 : hornTo n d i + 1 ≤ (hornTo n d i + 1) * fact (n - i) := Nat.le_mul_of_pos_right _ (fact_pos _)
  omega
theorem sum_mono (n : Nat) (d : Nat → Nat) {i k : Nat} (h : i ≤ k) : sumTo n d i ≤ sumTo n d k := by
  induction h with
  | refl => exact Nat.le_refl _
  | step _ ih => exact Nat.le_trans ih (by simp [sumTo])

/-- The digits of a rank. -/
def digit (n r i : Nat) : Nat := (r / fact (n - 1 - i)) % (n - i)
theorem digit_lt {n r i : Nat} (h : i < n) : digit n r i < n - i := Nat.mod_lt _ (by omega)
/-- The digits give the rank back. -/
theorem horn_digit (n r : Nat) (hr : r < fact n) : ∀ i, i ≤ n → hornTo n (digit n r) i = r / fact (n - i)
  | 0, _ => by simp only [hornTo, Nat.sub_zero]; exact (Nat.div_eq_of_lt hr).symm
  | i + 1, h => by
    have ih := horn_digit n r hr i (by omega)
    rw [horn_succ, ih, fact_step (show i < n by omega), Nat.mul_comm (n - i), ← Nat.div_div_eq_div_mul, show n - (i + 1) = n - 1 - i by omega]
    unfold digit
    exact Nat.div_add_mod' _ _
theorem horn_digit_all (n r : Nat) (hr : r < fact n) : hornTo n (digit n r) n = r := by
  rw [horn_digit n r hr n (Nat.le_refl _), Nat.sub_self]; simp [fact]
/-- Digits in their ranges are those of their rank. -/
theorem digit_horn (n : Nat) (d : Nat → Nat) (hd : ∀ i, i < n → d i ≤ n - 1 - i) : ∀ m, m ≤ n → ∀ i, i < m → (hornTo n d m / (fact (n - 1 - i) / fact (n - m))) % (n - i) = d i := by
  intro m
  induction m with
  | zero => intro _ i h; omega
  | succ m ih =>
    intro hm i hi
    have hdm := hd m (by omega)
    by_cases him : i = m
    · subst him
      rw [show n - 1 - i = n - (i + 1) by omega, Nat.div_self (fact_pos _), Nat.div_one]
      rw [horn_succ, Nat.mul_add_mod_self_right, Nat.mod_eq_of_lt (by omega)]
    · have h1 := ih (by omega) i (by omega)
      have hq : fact (n - 1 - i) / fact (n - (m + 1)) = (n - m) * (fact (n - 1 - i) / fact (n - m)) := by
        -- fact(n-m) divides fact(n-1-i)
        have hdv : fact (n - m) ∣ fact (n - 1 - i) := by
          have : n - m ≤ n - 1 - i := by omega
          generalize n - m = x at this
          generalize n - 1 - i = y at this
          induction this with
          | refl => exact Nat.dvd_refl _
          | step _ ih => rw [fact_succ]; exact Nat.dvd_trans ih (Nat.dvd_mul_left _ _)
        obtain ⟨c, hc⟩ := hdv
        rw [hc, Nat.mul_div_cancel_left _ (fact_pos _), fact_step (show m < n by omega), show n - (m + 1) = n - 1 - m by omega, Nat.mul_comm (n - m), Nat.mul_assoc, Nat.mul_div_cancel_left _ (fact_pos _)]
      rw [hq, ← Nat.div_div_eq_div_mul]
      have : hornTo n d (m + 1) / (n - m) = hornTo n d m := by
        rw [horn_succ, Nat.mul_comm, Nat.mul_add_div (by omega), Nat.div_eq_of_lt (by omega), Nat.add_zero]
      rw [this]; exact h1
theorem digit_horn_all (n : Nat) (d : Nat → Nat) (hd : ∀ i, i < n → d i ≤ n - 1 - i) (i : Nat) (h : i < n) : digit n (hornTo n d n) i = d i := by
  have := digit_horn n d hd n (Nat.le_refl _) i h
  rw [Nat.sub_self] at this
  unfold digit; simpa [fact] using this

theorem horn_congr (n : Nat) (d e : Nat → Nat) : ∀ i, (∀ k, k < i → d k = e k) → hornTo n d i = hornTo n e i
  | 0, _ => rfl
  | i + 1, h => by rw [horn_succ, horn_succ, horn_congr n d e i fun k hk => h k (by omega), h i (by omega)]

end P
namespace P

theorem perm_of_subset {α : Type} [DecidableEq α] : ∀ (a b : List α), a.Nodup → (∀ x ∈ a, x ∈ b) → b.length ≤ a.length → a.Perm b
  | [], b, _, _, h => by
    have : b = [] := List.eq_nil_of_length_eq_zero (by simpa using h)
    rw [this]
  | x :: a, b, hn, hs, h => by
    have hx : x ∈ b := hs x (by simp)
    have hn' := List.nodup_cons.1 hn
    have hl : (b.erase x).length = b.length - 1 := List.length_erase_of_mem hx
    have := perm_of_subset a (b.erase x) hn'.2 (fun y hy => (List.mem_erase_of_ne (fun e => by subst e; exact hn'.1 hy)).2 (hs y (by simp [hy]))) (by simp at h; omega)
    exact (this.cons x).trans (List.perm_cons_erase hx).symm

def iota (n : Nat) : List Int := (List.range n).map fun j : Nat => (j : Int)
theorem iota_length (n : Nat) : (iota n).length = n := by simp [iota]
theorem iota_at {n k : Nat} (h : k < n) : (iota n)[k]? = some (k : Int) := by simp [iota, h]
theorem iota_mem {n : Nat} {x : Int} : x ∈ iota n ↔ 0 ≤ x ∧ x < n := by
  unfold iota
  rw [List.mem_map]
  constructor
  · rintro ⟨a, ha, rfl⟩; have := List.mem_range.1 ha; omega
  · intro h; exact ⟨x.toNat, List.mem_range.2 (by omega), by omega⟩
theorem iota_succ (n : Nat) : iota (n + 1) = iota n ++ [(n : Int)] := by simp [iota, List.range_succ]
theorem iota_sorted (n : Nat) : (iota n).Pairwise (fun a b => a < b) := by
  unfold iota
  rw [List.pairwise_map]
  exact List.pairwise_lt_range.imp fun h => by omega
theorem sorted_nodup {l : List Int} (h : l.Pairwise (fun a b => a < b)) : l.Nodup := h.imp fun h => by omega
theorem iota_nodup (n : Nat) : (iota n).Nodup := sorted_nodup (iota_sorted n)

theorem OkP.perm {p : List Int} (h : OkP p) : p.Perm (iota p.length) := perm_of_subset _ _ h.2.2 (fun x hx => iota_mem.2 (h.2.1 x hx)) (by rw [iota_length]; exact Nat.le_refl _)
theorem OkP.of_perm {p : List Int} {n : Nat} (h : p.Perm (iota n)) (hn : n ≤ 64) : OkP p := by
  have hl : p.length = n := by rw [h.length_eq, iota_length]
  exact ⟨by omega, fun x hx => by rw [hl]; exact iota_mem.1 (h.mem_iff.1 hx), h.nodup_iff.2 (iota_nodup n)⟩
theorem OkP.mem {p : List Int} (h : OkP p) {x : Int} (h0 : 0 ≤ x) (h1 : x < p.length) : x ∈ p := h.perm.mem_iff.2 (iota_mem.2 ⟨h0, h1⟩)
theorem OkP.inj {p : List Int} (h : OkP p) {i k : Nat} {x : Int} (hi : p[i]? = some x) (hk : p[k]? = some x) : i = k := by
  obtain ⟨h1, e1⟩ := List.getElem?_eq_some_iff.1 hi
  obtain ⟨h2, e2⟩ := List.getElem?_eq_some_iff.1 hk
  exact (List.getElem_inj h.2.2).1 (e1.trans e2.symm)

/-- In an ascending list as many are less as stand before. -/
theorem sorted_count : ∀ (L : List Int) (d : Nat), L.Pairwise (fun a b => a < b) → d < L.length → L.countP (fun y => decide (y < L.getD d 0)) = d
  | [], _, _, h => by simp at h
  | x :: L, 0, hs, _ => by
    have h1 := List.pairwise_cons.1 hs
    rw [List.countP_eq_zero]
    intro y hy
    simp only [List.getD_cons_zero, decide_eq_true_eq]
    rcases List.mem_cons.1 hy with e | e
    · omega
    · have := h1.1 y e; omega
  | x :: L, d + 1, hs, h => by
    have h1 := List.pairwise_cons.1 hs
    have hd : d < L.length := by simpa using h
    have ih := sorted_count L d h1.2 hd
    have hx : x < L.getD d 0 := h1.1 _ (by rw [List.getD_eq_getElem?_getD, List.getElem?_eq_getElem hd]; simp)
    simp only [List.getD_cons_succ]
    rw [List.countP_cons_of_pos (by simpa using hx), ih]

theorem erase_count {L : List Int} {d : Nat} (hs : L.Pairwise (fun a b => a < b)) (h : d < L.length) : (L.eraseIdx d).countP (fun y => decide (y < L.getD d 0)) = d := by
  have h1 := sorted_count L d hs h
  have h2 : L = L.take d ++ L[d] :: L.drop (d + 1) := by rw [← List.drop_eq_getElem_cons h, List.take_append_drop]
  have h3 : L.getD d 0 = L[d] := by rw [List.getD_eq_getElem?_getD, List.getElem?_eq_getElem h]; rfl
  rw [h3] at h1 ⊢
  generalize L[d] = x at *
  rw [h2, List.countP_append, List.countP_cons_of_neg (by simp)] at h1
  rw [List.eraseIdx_eq_take_drop_succ, List.countP_append]
  exact h1

/-- Taking elements out of rest by their places. -/
def pickSt (d : Nat → Nat) (rest : List Int) : Nat → List Int × List Int
  | 0 => ([], rest)
  | i + 1 => ((pickSt d rest i).1 ++ [(pickSt d rest i).2.getD (d i) 0], (pickSt d rest i).2.eraseIdx (d i))
theorem pickSt_succ (d : Nat → Nat) (rest : List Int) (i : Nat) : pickSt d rest (i + 1) = ((pickSt d rest i).1 ++ [(pickSt d rest i).2.getD (d i) 0], (pickSt d rest i).2.eraseIdx (d i)) := rfl
theorem pickSt_out (d : Nat → Nat) (rest : List Int) : ∀ i, (pickSt d rest i).1.length = i
  | 0 => rfl
  | i + 1 => by rw [pickSt_succ]; simp [pickSt_out d rest i]
theorem pickSt_rest (d : Nat → Nat) (rest : List Int) : ∀ i, i ≤ rest.length → (∀ k, k < i → d k < rest.length - k) → (pickSt d rest i).2.length = rest.length - i
  | 0, _, _ => rfl
  | i + 1, h, hd => by
    have ih := pickSt_rest d rest i (by omega) (fun k hk => hd k (by omega))
    have := hd i (by omega)
    rw [pickSt_succ]
    simp only
    rw [List.length_eraseIdx, if_pos (by omega), ih]; omega
theorem pickSt_sorted (d : Nat → Nat) (rest : List Int) (hs : rest.Pairwise (fun a b => a < b)) : ∀ i, (pickSt d rest i).2.Pairwise (fun a b => a < b)
  | 0 => hs
  | i + 1 => by rw [pickSt_succ]; exact (pickSt_sorted d rest hs i).sublist (List.eraseIdx_sublist _ _)
theorem getD_erase_perm {L : List Int} {d : Nat} (h : d < L.length) : (L.getD d 0 :: L.eraseIdx d).Perm L := by
  have h3 : L.getD d 0 = L[d] := by rw [List.getD_eq_getElem?_getD, List.getElem?_eq_getElem h]; rfl
  rw [h3, List.eraseIdx_eq_take_drop_succ]
  have h2 : L = L.take d ++ L[d] :: L.drop (d + 1) := by rw [← List.drop_eq_getElem_cons h, List.take_append_drop]
  refine List.Perm.trans List.perm_middle.symm ?_
  rw [← h2]
/-- What is taken out from i to m comes from what rests at i. -/
theorem pickSt_split (d : Nat → Nat) (rest : List Int) (i : Nat) : ∀ m, i ≤ m → m ≤ rest.length → (∀ k, k < m → d k < rest.length - k) →
    ∃ t, (pickSt d rest m).1 = (pickSt d rest i).1 ++ t ∧ (t ++ (pickSt d rest m).2).Perm (pickSt d rest i).2 := by
  intro m him
  induction him with
  | refl => intro _ _; exact ⟨[], by simp, by simp⟩
  | step him ih =>
    rename_i m
    intro hm hd
    obtain ⟨t, h1, h2⟩ := ih (by omega) (fun k hk => hd k (by omega))
    have hl := pickSt_rest d rest m (by omega) (fun k hk => hd k (by omega))
    have hdm := hd m (by omega)
    refine ⟨t ++ [(pickSt d rest m).2.getD (d m) 0], by rw [pickSt_succ, h1]; simp, ?_⟩
    rw [pickSt_succ, List.append_assoc]
    exact ((getD_erase_perm (by rw [hl]; omega)).append_left t).trans h2

theorem pickSt_later (d : Nat → Nat) (n : Nat) (hd : ∀ k, k < n → d k < n - k) (i : Nat) (h : i < n) : later (pickSt d (iota n) n).1 i = d i := by
  have hn := iota_length n
  obtain ⟨t, h1, h2⟩ := pickSt_split d (iota n) (i + 1) n (by omega) (by omega) (by rw [hn]; exact hd)
  have hlen := pickSt_out d (iota n) (i + 1)
  have hli := pickSt_out d (iota n) i
  have hs := pickSt_sorted d (iota n) (iota_sorted n) i
  have hl := pickSt_rest d (iota n) i (by omega) (by rw [hn]; exact fun k hk => hd k (by omega))
  have hdi := hd i h
  have hrn := pickSt_rest d (iota n) n (by omega) (by rw [hn]; exact hd)
  have hrn0 : (pickSt d (iota n) n).2 = [] := List.eq_nil_of_length_eq_zero (by omega)
  rw [hrn0, List.append_nil] at h2
  unfold later
  have hg : (pickSt d (iota n) n).1.getD i 0 = (pickSt d (iota n) i).2.getD (d i) 0 := by
    rw [h1, pickSt_succ, List.getD_eq_getElem?_getD, List.getElem?_append_left (by simp [hli]), List.getElem?_append_right (by omega), hli]
    simp
  have hdl : ((pickSt d (iota n) (i + 1)).1 ++ t).drop (i + 1) = t := by rw [List.drop_append_of_le_length (by omega), List.drop_eq_nil_of_le (by omega), List.nil_append]
  rw [hg, h1, hdl, h2.countP_eq, pickSt_succ]
  exact erase_count hs (by omega)

/-- The permutation of a rank, and whether there is one. -/
def unrF (n r : Int) : List Int × Bool := if 0 ≤ n ∧ n ≤ 10 ∧ 0 ≤ r ∧ r < fact n.toNat then ((pickSt (digit n.toNat r.toNat) (iota n.toNat) n.toNat).1, true) else ([], false)
theorem unrF_yes {n r : Nat} (hn : n ≤ 10) (hr : r < fact n) : unrF n r = ((pickSt (digit n r) (iota n) n).1, true) := by
  unfold unrF; rw [if_pos ⟨by omega, by omega, by omega, by simpa using hr⟩]; simp
theorem unrF_no {n r : Int} (h : ¬ (0 ≤ n ∧ n ≤ 10 ∧ 0 ≤ r ∧ r < fact n.toNat)) : unrF n r = ([], false) := if_neg h
theorem unrF_len (n r : Int) : (unrF n r).1.length ≤ 1048576 := by
  unfold unrF; split
  · rename_i h; simp only [pickSt_out]; omega
  · simp

def rankF (p : List Int) : Int × Bool := if OkP p ∧ p.length ≤ 10 then ((hornTo p.length (later p) p.length : Nat), true) else (0, false)
theorem rankF_yes {p : List Int} (h : OkP p ∧ p.length ≤ 10) : rankF p = (((hornTo p.length (later p) p.length : Nat) : Int), true) := if_pos h
theorem rankF_no {p : List Int} (h : ¬ (OkP p ∧ p.length ≤ 10)) : rankF p = (0, false) := if_neg h
theorem later_lt {p : List Int} {i : Nat} (h : i < p.length) : later p i < p.length - i := by have := later_le p i; omega

theorem unr_ok {n r : Nat} (hn : n ≤ 10) (hr : r < fact n) : (pickSt (digit n r) (iota n) n).1.Perm (iota n) := by
  obtain ⟨t, h1, h2⟩ := pickSt_split (digit n r) (iota n) 0 n (by omega) (by rw [iota_length]; exact Nat.le_refl _) (by rw [iota_length]; exact fun k hk => digit_lt hk)
  have hrn := pickSt_rest (digit n r) (iota n) n (by rw [iota_length]; exact Nat.le_refl _) (by rw [iota_length]; exact fun k hk => digit_lt hk)
  rw [iota_length, Nat.sub_self] at hrn
  rw [List.eq_nil_of_length_eq_zero hrn, List.append_nil] at h2
  rw [h1]; simpa [pickSt] using h2

/-- The rank of the permutation of a rank. -/
theorem rank_unr {n r : Nat} (hn : n ≤ 10) (hr : r < fact n) : rankF (unrF n r).1 = ((r : Int), true) := by
  rw [unrF_yes hn hr]
  simp only
  have hp := unr_ok hn hr
  have hl : (pickSt (digit n r) (iota n) n).1.length = n := pickSt_out _ _ _
  rw [rankF_yes ⟨OkP.of_perm hp (by omega), by omega⟩, hl, horn_congr n _ (digit n r) n (fun k hk => pickSt_later _ n (fun k hk => digit_lt hk) k hk), horn_digit_all n r hr]

theorem pick_later {p : List Int} (h : OkP p) : ∀ i, i ≤ p.length → (pickSt (later p) (iota p.length) i).1 = p.take i ∧ (pickSt (later p) (iota p.length) i).2.Perm (p.drop i)
  | 0, _ => ⟨by simp [pickSt], by simpa [pickSt] using h.perm.symm⟩
  | i + 1, hi => by
    obtain ⟨h1, h2⟩ := pick_later h i (by omega)
    have hs := pickSt_sorted (later p) (iota p.length) (iota_sorted _) i
    have hip : i < p.length := by omega
    have hl : (pickSt (later p) (iota p.length) i).2.length = p.length - i := by rw [h2.length_eq]; simp
    have hdr : p.drop i = p[i] :: p.drop (i + 1) := List.drop_eq_getElem_cons hip
    have hgd : p.getD i 0 = p[i] := by rw [List.getD_eq_getElem?_getD, List.getElem?_eq_getElem hip]; rfl
    have hmem : p[i] ∈ (pickSt (later p) (iota p.length) i).2 := h2.mem_iff.2 (by rw [hdr]; exact List.mem_cons_self)
    obtain ⟨j, hj, ej⟩ := List.getElem_of_mem hmem
    have hjd : (pickSt (later p) (iota p.length) i).2.getD j 0 = p[i] := by rw [List.getD_eq_getElem?_getD, List.getElem?_eq_getElem hj]; exact ej
    have hc := sorted_count _ j hs hj
    rw [hjd, h2.countP_eq, hdr, List.countP_cons_of_neg (by simp)] at hc
    have hlat : later p i = j := by unfold later; rw [hgd]; exact hc
    rw [pickSt_succ, hlat]
    simp only
    rw [hjd, h1]
    refine ⟨by rw [List.take_add_one, List.getElem?_eq_getElem hip]; rfl, ?_⟩
    have := (getD_erase_perm hj).trans h2
    rw [hjd, hdr] at this
    exact this.cons_inv
/-- The permutation of the rank of a permutation. -/
theorem unr_rank {p : List Int} (h : OkP p) (h10 : p.length ≤ 10) : unrF p.length (rankF p).1 = (p, true) := by
  rw [rankF_yes ⟨h, h10⟩]
  simp only
  have hd : ∀ i, i < p.length → later p i ≤ p.length - 1 - i := fun i _ => later_le p i
  rw [unrF_yes h10 (horn_lt _ _ hd _ (Nat.le_refl _))]
  have e : ∀ i, i ≤ p.length → pickSt (digit p.length (hornTo p.length (later p) p.length)) (iota p.length) i = pickSt (later p) (iota p.length) i := by
    intro i
    induction i with
    | zero => intro _; rfl
    | succ i ih => intro hi; rw [pickSt_succ, pickSt_succ, ih (by omega), digit_horn_all _ _ hd i (by omega)]
  rw [e _ (Nat.le_refl _), (pick_later h _ (Nat.le_refl _)).1, List.take_length]

end P
namespace P

theorem getD_at {l : List Int} {k : Nat} {x : Int} (h : l[k]? = some x) : l.getD k 0 = x := by rw [List.getD_eq_getElem?_getD, h]; rfl
theorem at_getD {l : List Int} {k : Nat} (h : k < l.length) : l[k]? = some (l.getD k 0) := by rw [List.getD_eq_getElem?_getD, List.getElem?_eq_getElem h]; rfl

/-- One more than the place of the last ascent below k. -/
def piv (p : List Int) : Nat → Nat
  | 0 => 0
  | k + 1 => if p.getD (k + 1) 0 < p.getD k 0 then piv p k else k + 1
theorem piv_go {p : List Int} {k : Nat} (h : p.getD (k + 1) 0 < p.getD k 0) : piv p (k + 1) = piv p k := if_pos h
theorem piv_stop {p : List Int} {k : Nat} (h : ¬ p.getD (k + 1) 0 < p.getD k 0) : piv p (k + 1) = k + 1 := if_neg h
theorem piv_le (p : List Int) : ∀ k, piv p k ≤ k
  | 0 => Nat.le_refl _
  | k + 1 => by unfold piv; split; exact Nat.le_trans (piv_le p k) (by omega); exact Nat.le_refl _
theorem piv_desc (p : List Int) : ∀ k j, piv p k ≤ j → j < k → p.getD (j + 1) 0 < p.getD j 0
  | 0, _, _, h => by omega
  | k + 1, j, h1, h2 => by
    by_cases h : p.getD (k + 1) 0 < p.getD k 0
    · rw [piv_go h] at h1
      by_cases hj : j = k
      · subst hj; exact h
      · exact piv_desc p k j h1 (by omega)
    · rw [piv_stop h] at h1; omega
theorem piv_asc (p : List Int) : ∀ k, 0 < piv p k → ¬ p.getD (piv p k) 0 < p.getD (piv p k - 1) 0
  | 0, h => by simp [piv] at h
  | k + 1, hp => by
    by_cases h : p.getD (k + 1) 0 < p.getD k 0
    · rw [piv_go h] at hp ⊢; exact piv_asc p k hp
    · rw [piv_stop h]; simpa using h

/-- The last place, up to k, of an element that is not less than a. -/
def suc (p : List Int) (a : Int) : Nat → Nat
  | 0 => 0
  | k + 1 => if p.getD (k + 1) 0 < a then suc p a k else k + 1
theorem suc_go {p : List Int} {a : Int} {k : Nat} (h : p.getD (k + 1) 0 < a) : suc p a (k + 1) = suc p a k := if_pos h
theorem suc_stop {p : List Int} {a : Int} {k : Nat} (h : ¬ p.getD (k + 1) 0 < a) : suc p a (k + 1) = k + 1 := if_neg h
theorem suc_le (p : List Int) (a : Int) : ∀ k, suc p a k ≤ k
  | 0 => Nat.le_refl _
  | k + 1 => by unfold suc; split; exact Nat.le_trans (suc_le p a k) (by omega); exact Nat.le_refl _
theorem suc_ge {p : List Int} {a : Int} {m : Nat} (hm : ¬ p.getD m 0 < a) : ∀ k, m ≤ k → m ≤ suc p a k
  | 0, h => by simpa [suc] using h
  | k + 1, h => by
    by_cases hc : p.getD (k + 1) 0 < a
    · rw [suc_go hc]
      by_cases e : m = k + 1
      · subst e; exact absurd hc hm
      · exact suc_ge hm k (by omega)
    · rw [suc_stop hc]; exact h
theorem suc_not {p : List Int} {a : Int} : ∀ k, 0 < suc p a k → ¬ p.getD (suc p a k) 0 < a
  | 0, h => by simp [suc] at h
  | k + 1, h => by
    by_cases hc : p.getD (k + 1) 0 < a
    · rw [suc_go hc] at h ⊢; exact suc_not k h
    · rw [suc_stop hc]; exact hc
theorem suc_after {p : List Int} {a : Int} : ∀ k j, suc p a k < j → j ≤ k → p.getD j 0 < a
  | 0, j, h1, h2 => by simp [suc] at h1; omega
  | k + 1, j, h1, h2 => by
    by_cases hc : p.getD (k + 1) 0 < a
    · rw [suc_go hc] at h1
      by_cases e : j = k + 1
      · subst e; exact hc
      · exact suc_after k j h1 (by omega)
    · rw [suc_stop hc] at h1; omega

/-- With the pivot and its successor exchanged. -/
def swapped (p : List Int) (i k : Nat) : List Int := (p.set i (p.getD k 0)).set k (p.getD i 0)
theorem swapped_length (p : List Int) (i k : Nat) : (swapped p i k).length = p.length := by simp [swapped]
/-- The elements from a on, reversed by their m outer pairs. -/
def revTo (s : List Int) (a m : Nat) : List Int := (List.range s.length).map fun j : Nat => if a ≤ j ∧ (j < a + m ∨ s.length ≤ j + m) then s.getD (a + s.length - 1 - j) 0 else s.getD j 0
theorem revTo_length (s : List Int) (a m : Nat) : (revTo s a m).length = s.length := by simp [revTo]
theorem revTo_at {s : List Int} {a m j : Nat} (h : j < s.length) : (revTo s a m)[j]? = some (if a ≤ j ∧ (j < a + m ∨ s.length ≤ j + m) then s.getD (a + s.length - 1 - j) 0 else s.getD j 0) := by
  unfold revTo; simp [h]
theorem revTo_zero (s : List Int) (a : Nat) : revTo s a 0 = s := by
  apply List.ext_getElem?
  intro j
  by_cases h : j < s.length
  · rw [revTo_at h, if_neg (by omega), at_getD h]
  · rw [List.getElem?_eq_none (by rw [revTo_length]; omega), List.getElem?_eq_none (by omega)]
/-- One more pair. -/
theorem revTo_step {s : List Int} {a m b : Nat} (hb : b = s.length - 1 - m) (h : a + m < b) :
    (revTo s a m)[a + m]? = some (s.getD (a + m) 0) ∧ (revTo s a m)[b]? = some (s.getD b 0) ∧
    ((revTo s a m).set (a + m) (s.getD b 0)).set b (s.getD (a + m) 0) = revTo s a (m + 1) := by
  have hl : b < s.length := by omega
  refine ⟨by rw [revTo_at (by omega), if_neg (by omega)], by rw [revTo_at hl, if_neg (by omega)], ?_⟩
  apply List.ext_getElem?
  intro j
  by_cases hj : j < s.length
  · rw [List.getElem?_set, List.getElem?_set, revTo_at hj, revTo_at hj, List.length_set, revTo_length]
    by_cases e1 : b = j
    · subst e1
      rw [if_pos rfl, if_pos hj, if_pos (by omega), show a + s.length - 1 - b = a + m by omega]
    · rw [if_neg e1]
      by_cases e2 : a + m = j
      · subst e2
        rw [if_pos rfl, if_pos (by omega), if_pos (by omega), show a + s.length - 1 - (a + m) = b by omega]
      · rw [if_neg e2]
        by_cases c : a ≤ j ∧ (j < a + m ∨ s.length ≤ j + m)
        · rw [if_pos c, if_pos (by omega)]
        · rw [if_neg c, if_neg (by omega)]
  · rw [List.getElem?_eq_none (by simp [revTo_length]; omega), List.getElem?_eq_none (by rw [revTo_length]; omega)]
theorem revTo_done {s : List Int} {a m : Nat} (ha : a ≤ s.length) (hm : m ≤ s.length) (h : s.length ≤ a + 2 * m + 1) : revTo s a m = s.take a ++ (s.drop a).reverse := by
  apply List.ext_getElem?
  intro j
  by_cases hj : j < s.length
  · rw [revTo_at hj]
    by_cases hja : j < a
    · rw [if_neg (by omega), List.getElem?_append_left (by simp; omega), List.getElem?_take_of_lt hja, at_getD hj]
    · rw [List.getElem?_append_right (by simp; omega), List.getElem?_reverse (by simp; omega)]
      simp only [List.length_take, List.length_drop, List.getElem?_drop]
      rw [show a + (s.length - a - 1 - (j - min a s.length)) = a + s.length - 1 - j by omega, at_getD (by omega)]
      by_cases c : a ≤ j ∧ (j < a + m ∨ s.length ≤ j + m)
      · rw [if_pos c]
      · rw [if_neg c, show a + s.length - 1 - j = j by omega]
  · rw [List.getElem?_eq_none (by rw [revTo_length]; omega), List.getElem?_eq_none (by simp; omega)]

def nextOf (p : List Int) : List Int :=
  let i := piv p (p.length - 1) - 1
  let s := swapped p i (suc p (p.getD i 0) (p.length - 1))
  s.take (i + 1) ++ (s.drop (i + 1)).reverse
def nextF (p : List Int) : List Int × Bool := if OkP p ∧ 0 < piv p (p.length - 1) then (nextOf p, true) else ([], false)
theorem nextF_yes {p : List Int} (h : OkP p ∧ 0 < piv p (p.length - 1)) : nextF p = (nextOf p, true) := if_pos h
theorem nextF_no {p : List Int} (h : ¬ (OkP p ∧ 0 < piv p (p.length - 1))) : nextF p = ([], false) := if_neg h
theorem nextOf_length (p : List Int) : (nextOf p).length = p.length := by unfold nextOf; simp [swapped_length]; omega
theorem nextF_len (p : List Int) : (nextF p).1.length ≤ 1048576 := by
  unfold nextF; split
  · rename_i h; simp only [nextOf_length]; have := h.1.1; omega
  · simp

/-- The rank, from the back. -/
def rk : List Int → Nat
  | [] => 0
  | x :: l => l.countP (fun y => decide (y < x)) * fact l.length + rk l
theorem rk_cons (x : Int) (l : List Int) : rk (x :: l) = l.countP (fun y => decide (y < x)) * fact l.length + rk l := rfl
theorem sum_rk (p : List Int) : ∀ i, i ≤ p.length → sumTo p.length (later p) i + rk (p.drop i) = rk p
  | 0, _ => by simp [sumTo]
  | i + 1, h => by
    have ih := sum_rk p i (by omega)
    have hi : i < p.length := by omega
    rw [List.drop_eq_getElem_cons hi, rk_cons] at ih
    have hl : later p i = (p.drop (i + 1)).countP (fun y => decide (y < p[i])) := by unfold later; rw [getD_at (List.getElem?_eq_getElem hi)]
    rw [sum_succ, hl]
    have : (p.drop (i + 1)).length = p.length - 1 - i := by simp; omega
    rw [this] at ih
    omega
theorem horn_rk (p : List Int) : hornTo p.length (later p) p.length = rk p := by
  rw [horn_all]
  have := sum_rk p p.length (Nat.le_refl _)
  rw [List.drop_length] at this
  simpa [rk] using this
theorem rk_front {T T' : List Int} (h : T.Perm T') : ∀ L : List Int, rk (L ++ T) + rk T' = rk (L ++ T') + rk T
  | [] => by simp; omega
  | x :: L => by
    have ih := rk_front h L
    rw [List.cons_append, List.cons_append, rk_cons, rk_cons, (h.append_left L).countP_eq, (h.append_left L).length_eq]
    omega
theorem rk_desc : ∀ D : List Int, D.Pairwise (fun a b => b < a) → rk D + 1 = fact D.length
  | [], _ => rfl
  | x :: D, h => by
    obtain ⟨h1, h2⟩ := List.pairwise_cons.1 h
    have ih := rk_desc D h2
    have hc : D.countP (fun y => decide (y < x)) = D.length := by rw [List.countP_eq_length]; intro y hy; simpa using h1 y hy
    rw [rk_cons, hc, List.length_cons, fact_succ, Nat.add_mul, Nat.one_mul]
    omega
theorem rk_asc : ∀ D : List Int, D.Pairwise (fun a b => a < b) → rk D = 0
  | [], _ => rfl
  | x :: D, h => by
    obtain ⟨h1, h2⟩ := List.pairwise_cons.1 h
    have hc : D.countP (fun y => decide (y < x)) = 0 := by rw [List.countP_eq_zero]; intro y hy; have := h1 y hy; simp; omega
    rw [rk_cons, hc, rk_asc D h2]; simp

/-- A step of the next permutation: the pivot a, and the descending rest with its last element b above a. -/
theorem rk_next (L X Y : List Int) (a b : Int) (hd : (X ++ b :: Y).Pairwise (fun a b => b < a)) (hab : a < b) (hY : ∀ y ∈ Y, y < a) :
    rk (L ++ b :: (X ++ a :: Y).reverse) = rk (L ++ a :: (X ++ b :: Y)) + 1 := by
  have hp : (b :: (X ++ a :: Y).reverse).Perm (a :: (X ++ b :: Y)) := by
    refine ((List.reverse_perm _).cons b).trans ?_
    refine (List.perm_middle.cons b).trans ((List.Perm.swap a b _).trans ?_)
    exact (List.perm_middle.symm).cons a
  have h1 := rk_front hp L
  have hd2 := List.pairwise_append.1 hd
  have hd3 := List.pairwise_cons.1 hd2.2.1
  have hX : ∀ x ∈ X, b < x := fun x hx => hd2.2.2 x hx b (by simp)
  have hXa : (X ++ a :: Y).Pairwise (fun a b => b < a) := by
    refine List.pairwise_append.2 ⟨hd2.1, List.pairwise_cons.2 ⟨fun y hy => hY y hy, hd3.2⟩, fun x hx y hy => ?_⟩
    have := hX x hx
    rcases List.mem_cons.1 hy with e | e
    · omega
    · have := hY y e; omega
  have hasc : (X ++ a :: Y).reverse.Pairwise (fun a b => a < b) := by rw [List.pairwise_reverse]; exact hXa
  have c1 : (X ++ b :: Y).countP (fun y => decide (y < a)) = Y.length := by
    rw [List.countP_append, List.countP_cons_of_neg (by simp; omega), List.countP_eq_zero.2 (fun x hx => by have := hX x hx; simp; omega), List.countP_eq_length.2 (fun y hy => by simpa using hY y hy)]; omega
  have c2 : (X ++ a :: Y).reverse.countP (fun y => decide (y < b)) = Y.length + 1 := by
    rw [(List.reverse_perm _).countP_eq, List.countP_append, List.countP_cons_of_pos (by simpa using hab), List.countP_eq_zero.2 (fun x hx => by have := hX x hx; simp; omega), List.countP_eq_length.2 (fun y hy => by have := hY y hy; simp; omega)]; omega
  have h2 := rk_desc _ hd
  rw [rk_cons, rk_cons, c1, c2, rk_asc _ hasc] at h1
  have hl : (X ++ a :: Y).reverse.length = (X ++ b :: Y).length := by simp; omega
  rw [hl, Nat.add_mul, Nat.one_mul] at h1
  omega

theorem desc_of {p : List Int} {i : Nat} (h : ∀ j, i ≤ j → j + 1 < p.length → p.getD (j + 1) 0 < p.getD j 0) : (p.drop i).Pairwise (fun a b => b < a) := by
  rw [List.pairwise_iff_getElem]
  intro x y hx hy hxy
  simp only [List.getElem_drop]
  simp at hx hy
  induction hxy with
  | refl =>
    have := h (i + x) (by omega) (by omega)
    rw [getD_at (List.getElem?_eq_getElem (by omega : i + x + 1 < p.length)), getD_at (List.getElem?_eq_getElem (by omega : i + x < p.length))] at this
    exact this
  | @step m hm ih =>
    have h1 := ih (by omega)
    have := h (i + m) (by simp at hm; omega) (by omega)
    rw [getD_at (List.getElem?_eq_getElem (by omega : i + m + 1 < p.length)), getD_at (List.getElem?_eq_getElem (by omega : i + m < p.length))] at this
    show p[i + m + 1] < _
    omega

/-- How the next permutation is made up. -/
theorem next_split {p : List Int} (h : OkP p) (hp : 0 < piv p (p.length - 1)) :
    ∃ L X Y a b, p = L ++ a :: (X ++ b :: Y) ∧ nextOf p = L ++ b :: (X ++ a :: Y).reverse ∧ (X ++ b :: Y).Pairwise (fun a b => b < a) ∧ a < b ∧ ∀ y ∈ Y, y < a := by
  obtain ⟨i, hi⟩ : ∃ i, piv p (p.length - 1) = i + 1 := ⟨piv p (p.length - 1) - 1, by omega⟩
  have hle := piv_le p (p.length - 1)
  have hil : i + 1 < p.length := by omega
  have hasc := piv_asc p (p.length - 1) hp
  rw [hi] at hasc
  simp only [Nat.add_sub_cancel] at hasc
  obtain ⟨a, ha⟩ : ∃ a, p.getD i 0 = a := ⟨_, rfl⟩
  rw [ha] at hasc
  obtain ⟨k, hk⟩ : ∃ k, suc p a (p.length - 1) = k := ⟨_, rfl⟩
  have hik : i + 1 ≤ k := by rw [← hk]; exact suc_ge hasc _ (by omega)
  have hkl : k < p.length := by have := suc_le p a (p.length - 1); omega
  obtain ⟨b, hb⟩ : ∃ b, p.getD k 0 = b := ⟨_, rfl⟩
  have hba : ¬ b < a := by have := suc_not (p := p) (a := a) (p.length - 1) (by omega); rw [hk, hb] at this; exact this
  have hai : p[i]? = some a := by rw [← ha]; exact at_getD (by omega)
  have hbk : p[k]? = some b := by rw [← hb]; exact at_getD hkl
  have hne : a ≠ b := fun e => by subst e; have := h.inj hai hbk; omega
  have e1 : p = p.take i ++ a :: p.drop (i + 1) := by
    rw [← (List.getElem?_eq_some_iff.1 hai).2, ← List.drop_eq_getElem_cons (by omega), List.take_append_drop]
  have e2 : p.drop (i + 1) = (p.drop (i + 1)).take (k - (i + 1)) ++ b :: p.drop (k + 1) := by
    have : p.drop k = b :: p.drop (k + 1) := by rw [← (List.getElem?_eq_some_iff.1 hbk).2, ← List.drop_eq_getElem_cons hkl]
    rw [← this]
    have e : p.drop k = (p.drop (i + 1)).drop (k - (i + 1)) := by rw [List.drop_drop]; congr 1; omega
    rw [e, List.take_append_drop]
  have hX : ((p.drop (i + 1)).take (k - (i + 1))).length = k - (i + 1) := by simp; omega
  have hY : ∀ y ∈ p.drop (k + 1), y < a := by
    intro y hy
    obtain ⟨j, hj, e⟩ := List.getElem_of_mem hy
    simp at hj
    have := suc_after (p := p) (a := a) (p.length - 1) (k + 1 + j) (by omega) (by omega)
    rw [getD_at (List.getElem?_eq_getElem (by omega : k + 1 + j < p.length))] at this
    rw [← e]; simpa using this
  have hD := desc_of (p := p) (i := i + 1) (fun j h1 h2 => piv_desc p (p.length - 1) j (by omega) (by omega))
  generalize hXX : (p.drop (i + 1)).take (k - (i + 1)) = X at *
  generalize hYY : p.drop (k + 1) = Y at *
  rw [e2] at hD e1
  have hL : (p.take i).length = i := by simp; omega
  refine ⟨p.take i, X, Y, a, b, e1, ?_, hD, by omega, hY⟩
  have hs : swapped p i k = p.take i ++ b :: (X ++ a :: Y) := by
    unfold swapped
    rw [ha, hb]
    generalize p.take i = L at *
    rw [e1, List.set_append_right _ _ (by omega), hL, Nat.sub_self, List.set_cons_zero, List.set_append_right _ _ (by omega), hL,
      show k - i = (k - (i + 1)) + 1 by omega, List.set_cons_succ, List.set_append_right _ _ (by omega), hX, Nat.sub_self, List.set_cons_zero]
  unfold nextOf
  simp only
  rw [hi, Nat.add_sub_cancel, ha, hk, hs]
  generalize p.take i = L at *
  rw [List.take_append, List.drop_append, List.take_of_length_le (by omega), List.drop_eq_nil_of_le (by omega), hL, show i + 1 - i = 1 by omega]
  simp

theorem next_perm {p : List Int} (h : OkP p) (hp : 0 < piv p (p.length - 1)) : (nextOf p).Perm p := by
  obtain ⟨L, X, Y, a, b, e1, e2, _⟩ := next_split h hp
  rw [e2]; conv => rhs; rw [e1]
  refine List.Perm.append_left L ?_
  refine ((List.reverse_perm _).cons b).trans ?_
  refine (List.perm_middle.cons b).trans ((List.Perm.swap a b _).trans ?_)
  exact (List.perm_middle.symm).cons a
theorem next_ok {p : List Int} (h : OkP p) (hp : 0 < piv p (p.length - 1)) : OkP (nextOf p) := OkP.of_perm ((next_perm h hp).trans h.perm) h.1
/-- The next permutation has the next rank. -/
theorem next_rank {p : List Int} (h : OkP p) (h10 : p.length ≤ 10) (hp : 0 < piv p (p.length - 1)) : (rankF (nextF p).1).1 = (rankF p).1 + 1 := by
  rw [nextF_yes ⟨h, hp⟩, rankF_yes ⟨next_ok h hp, by rw [nextOf_length]; exact h10⟩, rankF_yes ⟨h, h10⟩]
  simp only
  rw [horn_rk, horn_rk]
  obtain ⟨L, X, Y, a, b, e1, e2, h3, h4, h5⟩ := next_split h hp
  rw [e2]
  have := rk_next L X Y a b h3 h4 h5
  rw [← e1] at this
  omega

end P
namespace P

/-- 1 or -1 by the parity. -/
def pm (n : Nat) : Int := if n % 2 = 0 then 1 else -1
theorem pm_succ (n : Nat) : pm (n + 1) = -pm n := by
  unfold pm
  rcases Nat.mod_two_eq_zero_or_one n with h | h
  · rw [if_neg (by omega), if_pos h]
  · rw [if_pos (by omega), if_neg (by omega)]; rfl
theorem pm_add (m n : Nat) : pm (m + n) = pm m * pm n := by
  induction n with
  | zero => simp [pm]
  | succ n ih => rw [← Nat.add_assoc, pm_succ, pm_succ, ih, Int.mul_neg]
theorem pm_par {m n : Nat} (h : m % 2 = n % 2) : pm m = pm n := by unfold pm; rw [h]
theorem pm_flip {m n : Nat} (h : m % 2 ≠ n % 2) : pm m = -pm n := by
  rw [← pm_succ]; exact pm_par (by omega)
theorem pm_zero : pm 0 = 1 := rfl

/-- How many elements of K are less than elements of L, over all of L. -/
def cross (L K : List Int) : Nat := (L.map fun x => K.countP (fun y => decide (y < x))).sum
def invs : List Int → Nat
  | [] => 0
  | x :: l => l.countP (fun y => decide (y < x)) + invs l
theorem invs_cons (x : Int) (l : List Int) : invs (x :: l) = l.countP (fun y => decide (y < x)) + invs l := rfl
theorem cross_cons (x : Int) (L K : List Int) : cross (x :: L) K = K.countP (fun y => decide (y < x)) + cross L K := by simp [cross]
theorem invs_append : ∀ L K : List Int, invs (L ++ K) = invs L + cross L K + invs K
  | [], K => by simp [invs, cross]
  | x :: L, K => by rw [List.cons_append, invs_cons, invs_cons, cross_cons, invs_append L K, List.countP_append]; omega
theorem cross_perm {K K' : List Int} (h : K.Perm K') (L : List Int) : cross L K = cross L K' := by
  unfold cross
  congr 1
  exact List.map_congr_left fun x _ => h.countP_eq _
theorem cross_tail (M : List Int) (y : Int) (R : List Int) : cross M (y :: R) = M.countP (fun m => decide (y < m)) + cross M R := by
  induction M with
  | nil => simp [cross]
  | cons m M ih =>
    rw [cross_cons, cross_cons, ih, List.countP_cons, List.countP_cons]
    omega
theorem count_both {M : List Int} {x : Int} (h : ∀ m ∈ M, m ≠ x) : M.countP (fun m => decide (m < x)) + M.countP (fun m => decide (x < m)) = M.length := by
  induction M with
  | nil => rfl
  | cons m M ih =>
    have ih := ih fun a ha => h a (by simp [ha])
    have hm := h m (by simp)
    rw [List.countP_cons, List.countP_cons, List.length_cons]
    by_cases c : m < x
    · simp [c, show ¬ x < m by omega]; omega
    · simp [c, show x < m by omega]; omega
/-- Exchanging two elements changes the parity. -/
theorem invs_swap (L M R : List Int) (x y : Int) (hxy : x ≠ y) (hx : ∀ m ∈ M, m ≠ x) (hy : ∀ m ∈ M, m ≠ y) :
    invs (L ++ x :: (M ++ y :: R)) % 2 ≠ invs (L ++ y :: (M ++ x :: R)) % 2 := by
  have hp : (x :: (M ++ y :: R)).Perm (y :: (M ++ x :: R)) := by
    refine (List.perm_middle.cons x).trans ((List.Perm.swap y x _).trans ?_)
    exact (List.perm_middle.symm).cons y
  rw [invs_append, invs_append, cross_perm hp]
  generalize cross L (y :: (M ++ x :: R)) = c0
  rw [invs_cons, invs_cons, invs_append, invs_append, invs_cons, invs_cons, cross_tail, cross_tail, List.countP_append, List.countP_append, List.countP_cons, List.countP_cons]
  have h1 := count_both hx
  have h2 := count_both hy
  by_cases c : x < y
  · simp only [c, show ¬ y < x by omega, decide_true, decide_false, if_true, Bool.false_eq_true, if_false]
    omega
  · simp only [c, show y < x by omega, decide_true, decide_false, if_true, Bool.false_eq_true, if_false]
    omega

theorem swapped_comm (p : List Int) {i k : Nat} (h : i ≠ k) : swapped p i k = swapped p k i := by
  unfold swapped; rw [List.set_comm _ _ h]
theorem swapped_cut {p : List Int} {i k : Nat} (hik : i < k) (hk : k < p.length) :
    ∃ L M R, p = L ++ p.getD i 0 :: (M ++ p.getD k 0 :: R) ∧ swapped p i k = L ++ p.getD k 0 :: (M ++ p.getD i 0 :: R) := by
  have hai := at_getD (l := p) (k := i) (by omega)
  have hbk := at_getD hk
  have hs : swapped p i k = (p.set i (p.getD k 0)).set k (p.getD i 0) := rfl
  generalize p.getD i 0 = a at *
  generalize p.getD k 0 = b at *
  have e1 : p = p.take i ++ a :: p.drop (i + 1) := by
    rw [← (List.getElem?_eq_some_iff.1 hai).2, ← List.drop_eq_getElem_cons (by omega), List.take_append_drop]
  have e2 : p.drop (i + 1) = (p.drop (i + 1)).take (k - (i + 1)) ++ b :: p.drop (k + 1) := by
    have : p.drop k = b :: p.drop (k + 1) := by rw [← (List.getElem?_eq_some_iff.1 hbk).2, ← List.drop_eq_getElem_cons hk]
    rw [← this]
    have e : p.drop k = (p.drop (i + 1)).drop (k - (i + 1)) := by rw [List.drop_drop]; congr 1; omega
    rw [e, List.take_append_drop]
  have hX : ((p.drop (i + 1)).take (k - (i + 1))).length = k - (i + 1) := by simp; omega
  have hL : (p.take i).length = i := by simp; omega
  generalize (p.drop (i + 1)).take (k - (i + 1)) = X at *
  generalize p.drop (k + 1) = Y at *
  rw [e2] at e1
  refine ⟨p.take i, X, Y, e1, ?_⟩
  rw [hs]
  generalize p.take i = L at *
  rw [e1, List.set_append_right _ _ (by omega), hL, Nat.sub_self, List.set_cons_zero, List.set_append_right _ _ (by omega), hL,
    show k - i = (k - (i + 1)) + 1 by omega, List.set_cons_succ, List.set_append_right _ _ (by omega), hX, Nat.sub_self, List.set_cons_zero]
theorem swapped_flip' {p : List Int} (h : p.Nodup) {i k : Nat} (hik : i < k) (hk : k < p.length) : (swapped p i k).Perm p ∧ pm (invs (swapped p i k)) = -pm (invs p) := by
  obtain ⟨L, M, R, e1, e2⟩ := swapped_cut hik hk
  rw [e2]
  generalize p.getD i 0 = x at *
  generalize p.getD k 0 = y at *
  subst e1
  have hp : (x :: (M ++ y :: R)).Perm (y :: (M ++ x :: R)) := by
    refine (List.perm_middle.cons x).trans ((List.Perm.swap y x _).trans ?_)
    exact (List.perm_middle.symm).cons y
  refine ⟨(hp.append_left L).symm, ?_⟩
  have hn := (List.nodup_append.1 h).2.1
  have hn1 := List.nodup_cons.1 hn
  have hn2 := List.nodup_append.1 hn1.2
  refine (pm_flip (Ne.symm (invs_swap L M R x y ?_ ?_ ?_)))
  · intro e; subst e; exact hn1.1 (by simp)
  · intro m hm e; subst e; exact hn1.1 (by simp [hm])
  · intro m hm e; exact hn2.2.2 m hm y (by simp) e
theorem swapped_flip {p : List Int} (h : p.Nodup) {i k : Nat} (hik : i ≠ k) (hi : i < p.length) (hk : k < p.length) : (swapped p i k).Perm p ∧ pm (invs (swapped p i k)) = -pm (invs p) := by
  by_cases c : i < k
  · exact swapped_flip' h c hk
  · rw [swapped_comm p hik]; exact swapped_flip' h (by omega) hi
theorem swapped_ok {p : List Int} (h : OkP p) {i k : Nat} (hik : i ≠ k) (hi : i < p.length) (hk : k < p.length) : OkP (swapped p i k) :=
  OkP.of_perm ((swapped_flip h.2.2 hik hi hk).1.trans h.perm) h.1
theorem swapped_at {p : List Int} {i k j : Nat} (hi : i < p.length) (hk : k < p.length) : (swapped p i k).getD j 0 = if j = k then p.getD i 0 else if j = i then p.getD k 0 else p.getD j 0 := by
  unfold swapped
  rw [List.getD_eq_getElem?_getD, List.getElem?_set, List.getElem?_set]
  by_cases h1 : j = k
  · subst h1; simp [hk]
  · rw [if_neg (by omega), if_neg h1]
    by_cases h2 : j = i
    · subst h2; simp [hi]
    · rw [if_neg (by omega), if_neg h2, List.getD_eq_getElem?_getD]

/-- The sum of the inversions so far. -/
def crossTo (p : List Int) : Nat → Nat
  | 0 => 0
  | i + 1 => crossTo p i + later p i
theorem crossTo_succ (p : List Int) (i : Nat) : crossTo p (i + 1) = crossTo p i + later p i := rfl
theorem crossTo_invs (p : List Int) : ∀ i, i ≤ p.length → crossTo p i + invs (p.drop i) = invs p
  | 0, _ => by simp [crossTo]
  | i + 1, h => by
    have ih := crossTo_invs p i (by omega)
    have hi : i < p.length := by omega
    have hl : later p i = (p.drop (i + 1)).countP (fun y => decide (y < p[i])) := by unfold later; rw [getD_at (List.getElem?_eq_getElem hi)]
    rw [List.drop_eq_getElem_cons hi, invs_cons] at ih
    rw [crossTo_succ, hl]
    omega
theorem crossTo_all (p : List Int) : crossTo p p.length = invs p := by
  have := crossTo_invs p p.length (Nat.le_refl _)
  rw [List.drop_length] at this
  simpa [invs] using this
theorem invs_iota (n : Nat) : invs (iota n) = 0 := by
  have : ∀ D : List Int, D.Pairwise (fun a b => a < b) → invs D = 0 := by
    intro D
    induction D with
    | nil => intro _; rfl
    | cons x D ih =>
      intro h
      obtain ⟨h1, h2⟩ := List.pairwise_cons.1 h
      have hc : D.countP (fun y => decide (y < x)) = 0 := by rw [List.countP_eq_zero]; intro y hy; have := h1 y hy; simp; omega
      rw [invs_cons, hc, ih h2]
  exact this _ (iota_sorted n)

def signF (p : List Int) : Int × Bool := if OkP p then (pm (invs p), true) else (0, false)
theorem signF_yes {p : List Int} (h : OkP p) : signF p = (pm (invs p), true) := if_pos h
theorem signF_no {p : List Int} (h : ¬ OkP p) : signF p = (0, false) := if_neg h

theorem OkP.val {p : List Int} (h : OkP p) {i : Nat} (hi : i < p.length) : 0 ≤ p.getD i 0 ∧ p.getD i 0 < p.length := h.at (at_getD hi)
theorem iota_of_fixed {q : List Int} (h : ∀ j, j < q.length → q.getD j 0 = j) : q = iota q.length := by
  apply List.ext_getElem?
  intro j
  by_cases hj : j < q.length
  · rw [iota_at hj, at_getD hj, h j hj]
  · rw [List.getElem?_eq_none (by omega), List.getElem?_eq_none (by rw [iota_length]; omega)]
def moved (q : List Int) : Nat := (List.range q.length).countP fun j => decide (q.getD j 0 ≠ (j : Int))
/-- Every permutation comes from the identity by exchanges. -/
theorem swap_induction {n : Nat} (F : List Int → Prop) (h0 : F (iota n)) (hs : ∀ q i k, OkP q → q.length = n → i ≠ k → i < n → k < n → F (swapped q i k) → F q) :
    ∀ q, OkP q → q.length = n → F q := by
  have main : ∀ m q, moved q ≤ m → OkP q → q.length = n → F q := by
    intro m
    induction m with
    | zero =>
      intro q hm hq hl
      have : ∀ j, j < q.length → q.getD j 0 = j := by
        intro j hj
        have := List.countP_eq_zero.1 (Nat.le_zero.1 hm) j (List.mem_range.2 hj)
        simpa using this
      rw [iota_of_fixed this, hl]; exact h0
    | succ m ih =>
      intro q hm hq hl
      by_cases hf : ∀ j, j < q.length → q.getD j 0 = j
      · rw [iota_of_fixed hf, hl]; exact h0
      · obtain ⟨i, hi⟩ := Classical.not_forall.1 hf
        obtain ⟨hi, hne⟩ := Classical.not_imp.1 hi
        have hv := hq.val hi
        obtain ⟨k, hk⟩ : ∃ k : Nat, q.getD i 0 = k := ⟨(q.getD i 0).toNat, by omega⟩
        have hik : i ≠ k := by omega
        have hkl : k < q.length := by omega
        have hqk : q.getD k 0 ≠ (k : Int) := fun e => by
          have h1 := at_getD hi; have h2 := at_getD hkl
          rw [hk] at h1; rw [e] at h2
          exact hik (hq.inj h1 h2)
        refine hs q i k hq hl hik (by omega) (by omega) (ih _ ?_ (swapped_ok hq hik hi hkl) (by rw [swapped_length]; exact hl))
        have hlt : moved (swapped q i k) < moved q := by
          unfold moved
          rw [swapped_length]
          have key : ∀ l : List Nat, l.Nodup → k ∈ l → l.countP (fun j => decide ((swapped q i k).getD j 0 ≠ (j : Int))) < l.countP (fun j => decide (q.getD j 0 ≠ (j : Int))) := by
            have imp : ∀ j : Nat, decide ((swapped q i k).getD j 0 ≠ (j : Int)) = true → decide (q.getD j 0 ≠ (j : Int)) = true := by
              intro j
              rw [swapped_at hi hkl]
              by_cases h1 : j = k
              · subst h1; rw [if_pos rfl, hk]; intro hh; exact absurd rfl (of_decide_eq_true hh)
              · rw [if_neg h1]
                by_cases h2 : j = i
                · subst h2; intro _; exact decide_eq_true hne
                · rw [if_neg h2]; exact id
            intro l
            induction l with
            | nil => intro _ h; simp at h
            | cons x l ih2 =>
              intro hn hmem
              have hn' := List.nodup_cons.1 hn
              by_cases hx : x = k
              · subst hx
                rw [List.countP_cons_of_neg (by rw [swapped_at hi hkl, if_pos rfl, hk]; simp), List.countP_cons_of_pos (by exact decide_eq_true hqk)]
                have := List.countP_mono_left (l := l) (fun j _ hj => imp j hj)
                omega
              · have hm2 : k ∈ l := by
                  rcases List.mem_cons.1 hmem with e | e
                  · exact absurd e.symm hx
                  · exact e
                have := ih2 hn'.2 hm2
                rw [List.countP_cons, List.countP_cons]
                have hi2 := imp x
                by_cases c : decide ((swapped q i k).getD x 0 ≠ (x : Int)) = true
                · rw [if_pos c, if_pos (hi2 c)]; omega
                · rw [if_neg c]; omega
          exact key _ List.nodup_range (List.mem_range.2 hkl)
        omega
  exact fun q hq hl => main _ q (Nat.le_refl _) hq hl

theorem pickAt_getD {p q : List Int} {j : Nat} (h : j < q.length) : (pickAt p q).getD j 0 = p.getD (q.getD j 0).toNat 0 := by
  unfold pickAt
  rw [getD_at (k := j) (x := p.getD (q.getD j 0).toNat 0)]
  rw [List.getElem?_map, at_getD h]; rfl
theorem pickAt_swapped {p q : List Int} {i k : Nat} (hi : i < q.length) (hk : k < q.length) : pickAt p (swapped q i k) = swapped (pickAt p q) i k := by
  apply List.ext_getElem?
  intro j
  by_cases hj : j < q.length
  · rw [at_getD (by rw [pickAt_length, swapped_length]; exact hj), at_getD (by rw [swapped_length, pickAt_length]; exact hj),
      pickAt_getD (by rw [swapped_length]; exact hj), swapped_at hi hk, swapped_at (by rw [pickAt_length]; exact hi) (by rw [pickAt_length]; exact hk), pickAt_getD hi, pickAt_getD hk, pickAt_getD hj]
    split
    · rfl
    · split <;> rfl
  · rw [List.getElem?_eq_none (by rw [pickAt_length, swapped_length]; omega), List.getElem?_eq_none (by rw [swapped_length, pickAt_length]; omega)]
theorem pickAt_iota (p : List Int) : pickAt p (iota p.length) = p := by
  apply List.ext_getElem?
  intro j
  by_cases hj : j < p.length
  · rw [pickAt_at (iota_at hj) (at_getD hj), at_getD hj]
  · rw [List.getElem?_eq_none (by rw [pickAt_length, iota_length]; omega), List.getElem?_eq_none (by omega)]
/-- A composition is a permutation, and signs multiply. -/
theorem comp_sign {p q : List Int} (hp : OkP p) (hq : OkP q) (h : p.length = q.length) : OkP (pickAt p q) ∧ pm (invs (pickAt p q)) = pm (invs p) * pm (invs q) := by
  have := swap_induction (n := p.length) (fun q => OkP (pickAt p q) ∧ pm (invs (pickAt p q)) = pm (invs p) * pm (invs q)) (by
    refine ⟨by rw [pickAt_iota]; exact hp, ?_⟩
    rw [pickAt_iota, invs_iota, pm_zero, Int.mul_one]) (by
    rintro q i k hq hl hik hi hk ⟨h1, h2⟩
    have hi' : i < q.length := by omega
    have hk' : k < q.length := by omega
    rw [pickAt_swapped hi' hk'] at h1 h2
    have e : ∀ l : List Int, i < l.length → k < l.length → swapped (swapped l i k) i k = l := by
      intro l hi hk
      apply List.ext_getElem?
      intro j
      by_cases hj : j < l.length
      · rw [at_getD (by simpa [swapped_length] using hj), at_getD hj, swapped_at (by simpa [swapped_length] using hi) (by simpa [swapped_length] using hk), swapped_at hi hk, swapped_at hi hk, swapped_at hi hk]
        by_cases g1 : j = k
        · rw [if_pos g1, if_neg hik, if_pos rfl, g1]
        · by_cases g2 : j = i
          · rw [if_neg g1, if_pos g2, if_pos rfl, g2]
          · rw [if_neg g1, if_neg g2, if_neg g1, if_neg g2]
      · rw [List.getElem?_eq_none (by simpa [swapped_length] using hj), List.getElem?_eq_none (by omega)]
    have hr : OkP (pickAt p q) := by
      have := swapped_ok h1 hik (by simp [swapped_length, pickAt_length, hi']) (by simp [swapped_length, pickAt_length, hk'])
      rw [e _ (by rw [pickAt_length]; exact hi') (by rw [pickAt_length]; exact hk')] at this
      exact this
    have f1 := (swapped_flip hr.2.2 hik (by rw [pickAt_length]; exact hi') (by rw [pickAt_length]; exact hk')).2
    have f2 := (swapped_flip hq.2.2 hik hi' hk').2
    refine ⟨hr, ?_⟩
    rw [f1, f2, Int.mul_neg] at h2
    omega) q hq h.symm
  exact this

end P
namespace P

/-- The elements met from k on, with V met before. -/
def orb (p : List Int) : Nat → List Nat → Nat → List Nat
  | 0, _, _ => []
  | f + 1, V, k => if k ∈ V then [] else k :: orb p f (V ++ [k]) (p.getD k 0).toNat
theorem orb_stop {p : List Int} {f : Nat} {V : List Nat} {k : Nat} (h : k ∈ V) : orb p (f + 1) V k = [] := if_pos h
theorem orb_go {p : List Int} {f : Nat} {V : List Nat} {k : Nat} (h : ¬ k ∈ V) : orb p (f + 1) V k = k :: orb p f (V ++ [k]) (p.getD k 0).toNat := if_neg h

/-- What has been met after the starts below i. -/
def vis (p : List Int) : Nat → List Nat
  | 0 => []
  | i + 1 => vis p i ++ orb p 65 (vis p i) i
theorem vis_succ (p : List Int) (i : Nat) : vis p (i + 1) = vis p i ++ orb p 65 (vis p i) i := rfl
def nats (l : List Nat) : List Int := l.map fun j : Nat => (j : Int)
theorem nats_length (l : List Nat) : (nats l).length = l.length := by simp [nats]
theorem nats_append (l m : List Nat) : nats (l ++ m) = nats l ++ nats m := by simp [nats]
/-- The cycles of the starts below i. -/
def cyc (p : List Int) : Nat → List (List Nat)
  | 0 => []
  | i + 1 => if i ∈ vis p i then cyc p i else cyc p i ++ [orb p 65 (vis p i) i]
theorem cyc_old {p : List Int} {i : Nat} (h : i ∈ vis p i) : cyc p (i + 1) = cyc p i := if_pos h
theorem cyc_new {p : List Int} {i : Nat} (h : ¬ i ∈ vis p i) : cyc p (i + 1) = cyc p i ++ [orb p 65 (vis p i) i] := if_neg h
theorem vis_old {p : List Int} {i : Nat} (h : i ∈ vis p i) : vis p (i + 1) = vis p i := by rw [vis_succ, orb_stop h, List.append_nil]
theorem orb_nil {p : List Int} {V : List Nat} {i : Nat} : orb p 65 V i = [] ↔ i ∈ V := by
  constructor
  · intro h
    by_cases c : i ∈ V
    · exact c
    · rw [orb_go c] at h; simp at h
  · exact orb_stop

/-- The marks of what has been met. -/
def markV (n : Nat) (V : List Nat) : List Bool := (List.range n).map fun j => decide (j ∈ V)
theorem markV_length (n : Nat) (V : List Nat) : (markV n V).length = n := by simp [markV]
theorem markV_at {n : Nat} {V : List Nat} {j : Nat} (h : j < n) : (markV n V)[j]? = some (decide (j ∈ V)) := by simp [markV, h]
theorem markV_nil (n : Nat) : markV n [] = List.replicate n false := by
  apply List.ext_getElem (by simp [markV])
  intro i h1 h2; simp [markV]
theorem markV_set {n : Nat} {V : List Nat} {k : Nat} : (markV n V).set k true = markV n (V ++ [k]) := by
  apply List.ext_getElem?
  intro j
  rw [List.getElem?_set, markV_length]
  by_cases hj : j < n
  · rw [markV_at hj, markV_at hj]
    by_cases e : k = j
    · subst e; simp [hj]
    · rw [if_neg e]; simp; have : ¬ j = k := by omega
      simp [this]
  · by_cases e : k = j
    · subst e; simp [hj, markV]
    · rw [if_neg e]; simp [markV, hj]

/-- The whole of a cycle, on the way: V met before the start i, acc on the way, k the next, f the fuel left. -/
structure OnWay (p : List Int) (V : List Nat) (i : Nat) (acc : List Nat) (k f : Nat) : Prop where
  rest : acc ++ orb p f (V ++ acc) k = orb p 65 V i
  fuel : f + acc.length = 65
  nodup : (V ++ acc).Nodup
  small : ∀ j ∈ V ++ acc, j < p.length
  next : k < p.length
  pos : 0 < f

theorem length_le_of_small {V : List Nat} {n : Nat} (hn : V.Nodup) (h : ∀ j ∈ V, j < n) : V.length ≤ n := by
  have key : ∀ (a b : List Nat), a.Nodup → (∀ x ∈ a, x ∈ b) → a.length ≤ b.length := by
    intro a
    induction a with
    | nil => intro b _ _; exact Nat.zero_le _
    | cons x a ih =>
      intro b hn hs
      have hx : x ∈ b := hs x (by simp)
      have hn' := List.nodup_cons.1 hn
      have hl : (b.erase x).length = b.length - 1 := List.length_erase_of_mem hx
      have hpos : 0 < b.length := List.length_pos_of_mem hx
      have := ih (b.erase x) hn'.2 (fun y hy => (List.mem_erase_of_ne (fun e => by subst e; exact hn'.1 hy)).2 (hs y (by simp [hy])))
      simp; omega
  have := key V (List.range n) hn (fun x hx => List.mem_range.2 (h x hx))
  simpa using this

theorem OnWay.start {p : List Int} {V : List Nat} {i : Nat} (hn : V.Nodup) (hs : ∀ j ∈ V, j < p.length) (hi : i < p.length) : OnWay p V i [] i 65 :=
  ⟨by simp, by simp, by simpa using hn, by simpa using hs, hi, by omega⟩
theorem OnWay.go {p : List Int} {V : List Nat} {i : Nat} {acc : List Nat} {k f : Nat} (h : OnWay p V i acc k f) (hp : OkP p) (hk : ¬ k ∈ V ++ acc) :
    OnWay p V i (acc ++ [k]) (p.getD k 0).toNat (f - 1) := by
  obtain ⟨f, rfl⟩ : ∃ g, f = g + 1 := ⟨f - 1, by have := h.pos; omega⟩
  have hr := h.rest
  rw [orb_go hk] at hr
  have hf := h.fuel
  have hnd : (V ++ (acc ++ [k])).Nodup := by
    rw [← List.append_assoc]
    refine List.nodup_append.2 ⟨h.nodup, by simp, fun a ha b hb => ?_⟩
    simp only [List.mem_singleton] at hb; subst hb
    intro e; subst e; exact hk ha
  have hsm : ∀ j ∈ V ++ (acc ++ [k]), j < p.length := by
    intro j hj
    rw [← List.append_assoc] at hj
    rcases List.mem_append.1 hj with h' | h'
    · exact h.small j h'
    · simp at h'; subst h'; exact h.next
  have hlen := length_le_of_small hnd hsm
  have h64 := hp.1
  have hv := hp.val h.next
  refine ⟨?_, by simp at *; omega, hnd, hsm, by omega, ?_⟩
  · rw [Nat.add_sub_cancel]; simpa using hr
  · simp at hlen; simp; omega
theorem OnWay.done {p : List Int} {V : List Nat} {i : Nat} {acc : List Nat} {k f : Nat} (h : OnWay p V i acc k f) (hk : k ∈ V ++ acc) : acc = orb p 65 V i := by
  obtain ⟨f, rfl⟩ : ∃ g, f = g + 1 := ⟨f - 1, by have := h.pos; omega⟩
  have hr := h.rest
  rw [orb_stop hk] at hr
  simpa using hr
theorem OnWay.room {p : List Int} {V : List Nat} {i : Nat} {acc : List Nat} {k f : Nat} (h : OnWay p V i acc k f) : acc.length ≤ p.length := by
  have := length_le_of_small h.nodup h.small
  simp at this; omega

/-- q is p with what has been met at its own place. -/
structure Inv (p : List Int) (V : List Nat) (q : List Int) : Prop where
  ok : OkP q
  len : q.length = p.length
  fixed : ∀ j ∈ V, q.getD j 0 = j
  other : ∀ j, ¬ j ∈ V → q.getD j 0 = p.getD j 0

structure Inv2 (p : List Int) (V : List Nat) (i : Nat) (rest : List Nat) (k : Nat) (q : List Int) (s : Int) : Prop where
  ok : OkP q
  len : q.length = p.length
  fixed : ∀ j ∈ V ++ rest, q.getD j 0 = j
  at_ : q.getD i 0 = k
  other : ∀ j, ¬ j ∈ V ++ (i :: rest) → q.getD j 0 = p.getD j 0
  sign : pm (invs q) = s * pm rest.length
  chain : ∀ j, j + 1 < (i :: rest).length → p.getD ((i :: rest).getD j 0) 0 = ((i :: rest).getD (j + 1) 0 : Nat)
  last : p.getD ((i :: rest).getD rest.length 0) 0 = (k : Int)

theorem inv2_go {p : List Int} (hp : OkP p) {V : List Nat} {i : Nat} {rest : List Nat} {k : Nat} {q : List Int} {s : Int} (h : Inv2 p V i rest k q s) (hi : i < p.length) (hk : k < p.length)
    (hn : ¬ k ∈ V ++ (i :: rest)) : ∃ q', Inv2 p V i (rest ++ [k]) (p.getD k 0).toNat q' s := by
  have hik : i ≠ k := fun e => hn (by simp [e])
  have hi' : i < q.length := by rw [h.len]; exact hi
  have hk' : k < q.length := by rw [h.len]; exact hk
  have hv := hp.val hk
  have hqk : q.getD k 0 = p.getD k 0 := h.other k hn
  refine ⟨swapped q i k, swapped_ok h.ok hik hi' hk', by rw [swapped_length]; exact h.len, ?_, ?_, ?_, ?_, ?_, ?_⟩
  · intro j hj
    rw [swapped_at hi' hk']
    by_cases e : j = k
    · rw [if_pos e, h.at_, e]
    · have hj2 : j ∈ V ++ rest := by
        rw [← List.append_assoc] at hj
        rcases List.mem_append.1 hj with h' | h'
        · exact h'
        · simp at h'; exact absurd h' e
      have e2 : j ≠ i := fun e2 => by
        have := h.fixed j hj2
        rw [e2, h.at_] at this; omega
      rw [if_neg e, if_neg e2, h.fixed j hj2]
  · rw [swapped_at hi' hk', if_neg hik, if_pos rfl, hqk]; omega
  · intro j hj
    have hj1 : ¬ j ∈ V ++ (i :: rest) := fun hh => hj (by
      rcases List.mem_append.1 hh with h' | h'
      · exact List.mem_append_left _ h'
      · refine List.mem_append_right _ ?_
        rcases List.mem_cons.1 h' with h' | h'
        · subst h'; simp
        · simp [h'])
    have e1 : j ≠ k := fun e => hj (by subst e; simp)
    have e2 : j ≠ i := fun e => hj (by subst e; simp)
    rw [swapped_at hi' hk', if_neg e1, if_neg e2, h.other j hj1]
  · rw [(swapped_flip h.ok.2.2 hik hi' hk').2, h.sign, List.length_append, List.length_singleton, pm_succ, Int.mul_neg]
  · intro j hj
    have hl : (i :: (rest ++ [k])) = (i :: rest) ++ [k] := by simp
    have hll : (i :: rest).length = rest.length + 1 := by simp
    rw [hl] at hj ⊢
    rw [List.length_append, List.length_singleton, hll] at hj
    by_cases e : j + 1 < (i :: rest).length
    · have := h.chain j e
      rw [List.getD_eq_getElem?_getD (l := (i :: rest) ++ [k]), List.getD_eq_getElem?_getD (l := (i :: rest) ++ [k]), List.getElem?_append_left (by omega), List.getElem?_append_left (by omega), ← List.getD_eq_getElem?_getD, ← List.getD_eq_getElem?_getD]
      exact this
    · have ej : j = rest.length := by omega
      have := h.last
      rw [List.getD_eq_getElem?_getD (l := (i :: rest) ++ [k]), List.getD_eq_getElem?_getD (l := (i :: rest) ++ [k]), List.getElem?_append_left (by omega), List.getElem?_append_right (by omega), ← List.getD_eq_getElem?_getD, ej, hll, Nat.sub_self]
      exact this
  · have hl : (i :: (rest ++ [k])).getD (rest ++ [k]).length 0 = k := by
      have : (i :: (rest ++ [k])) = (i :: rest) ++ [k] := by simp
      rw [this, List.getD_eq_getElem?_getD, List.getElem?_append_right (by simp)]
      simp
    rw [hl]; omega

theorem inv2_done {p : List Int} {V : List Nat} {i : Nat} {rest : List Nat} {k : Nat} {q : List Int} {s : Int} (h : Inv2 p V i rest k q s) (hi : i < p.length) (hk : k < p.length) (hn : (V ++ (i :: rest)).Nodup)
    (hm : k ∈ V ++ (i :: rest)) : k = i ∧ Inv p (V ++ (i :: rest)) q := by
  have hki : k = i := by
    apply Classical.byContradiction
    intro hne
    have hmem : k ∈ V ++ rest := by
      rcases List.mem_append.1 hm with h' | h'
      · exact List.mem_append_left _ h'
      · rcases List.mem_cons.1 h' with h' | h'
        · exact absurd h' hne
        · exact List.mem_append_right _ h'
    have h1 := h.fixed k hmem
    have h2 := h.at_
    have a1 := at_getD (l := q) (k := k) (by rw [h.len]; exact hk)
    have a2 := at_getD (l := q) (k := i) (by rw [h.len]; exact hi)
    rw [h1] at a1; rw [h2] at a2
    exact hne (h.ok.inj a1 a2)
  refine ⟨hki, h.ok, h.len, ?_, h.other⟩
  intro j hj
  rcases List.mem_append.1 hj with h' | h'
  · exact h.fixed j (List.mem_append_left _ h')
  · rcases List.mem_cons.1 h' with h' | h'
    · subst h'; rw [h.at_, hki]
    · exact h.fixed j (List.mem_append_right _ h')

/-- A whole cycle. -/
structure Cycle (p : List Int) (c : List Nat) : Prop where
  pos : 0 < c.length
  small : ∀ j ∈ c, j < p.length
  chain : ∀ j, j < c.length → p.getD (c.getD j 0) 0 = (c.getD ((j + 1) % c.length) 0 : Nat)

theorem orb_cycle {p : List Int} (hp : OkP p) {V : List Nat} {q : List Int} (h : Inv p V q) (hnd : V.Nodup) (hsm : ∀ j ∈ V, j < p.length) {i : Nat} (hi : i < p.length) (hiV : ¬ i ∈ V) :
    Cycle p (orb p 65 V i) ∧ (V ++ orb p 65 V i).Nodup ∧ (∀ j ∈ V ++ orb p 65 V i, j < p.length) ∧ i ∈ orb p 65 V i ∧ ∃ q', Inv p (V ++ orb p 65 V i) q' ∧ pm (invs q') = pm (invs q) * pm ((orb p 65 V i).length - 1) := by
  have hv := hp.val hi
  have main : ∀ m (rest : List Nat) (k f : Nat) (q' : List Int), f ≤ m → OnWay p V i (i :: rest) k f → Inv2 p V i rest k q' (pm (invs q)) →
      Cycle p (orb p 65 V i) ∧ (V ++ orb p 65 V i).Nodup ∧ (∀ j ∈ V ++ orb p 65 V i, j < p.length) ∧ i ∈ orb p 65 V i ∧ ∃ q', Inv p (V ++ orb p 65 V i) q' ∧ pm (invs q') = pm (invs q) * pm ((orb p 65 V i).length - 1) := by
    intro m
    induction m with
    | zero => intro rest k f q' hf hw _; have := hw.pos; omega
    | succ m ih =>
      intro rest k f q' hf hw h2
      by_cases hk : k ∈ V ++ (i :: rest)
      · obtain ⟨hki, hinv⟩ := inv2_done h2 hi hw.next hw.nodup hk
        rw [← hw.done hk]
        refine ⟨⟨by simp, fun j hj => hw.small j (List.mem_append_right _ hj), ?_⟩, hw.nodup, hw.small, by simp, q', hinv, by simpa using h2.sign⟩
        intro j hj
        by_cases e : j + 1 < (i :: rest).length
        · rw [Nat.mod_eq_of_lt e]; exact h2.chain j e
        · have ej : j = rest.length := by simp at hj e; omega
          have em : (j + 1) % (i :: rest).length = 0 := by rw [ej, List.length_cons, Nat.mod_self]
          rw [em, ej, h2.last, hki]; rfl
      · obtain ⟨q2, h3⟩ := inv2_go hp h2 hi hw.next hk
        have hw2 := hw.go hp hk
        exact ih (rest ++ [k]) _ (f - 1) q2 (by have := hw.pos; omega) (by simpa using hw2) h3
  have hw0 := (OnWay.start hnd hsm hi).go hp (by simpa using hiV)
  refine main 64 [] (p.getD i 0).toNat (65 - 1) q (by omega) (by simpa using hw0) ⟨h.ok, h.len, by simpa using h.fixed, ?_, ?_, by simp [pm], by simp, ?_⟩
  · rw [h.other i hiV]; omega
  · intro j hj; exact h.other j (fun hh => hj (List.mem_append_left _ hh))
  · simp only [List.length_nil, List.getD_cons_zero]; omega

theorem vis_all {p : List Int} (hp : OkP p) : ∀ i, i ≤ p.length → (vis p i).Nodup ∧ (∀ j ∈ vis p i, j < p.length) ∧ (∀ j, j < i → j ∈ vis p i) ∧ (∀ c ∈ cyc p i, Cycle p c) ∧ (vis p i).length = ((cyc p i).map List.length).sum ∧
    (cyc p i).length ≤ (vis p i).length ∧
    ∃ q, Inv p (vis p i) q ∧ pm (invs q) = pm (invs p) * pm ((vis p i).length - (cyc p i).length)
  | 0, _ => ⟨by simp [vis], by simp [vis], by omega, by simp [cyc], by simp [vis, cyc], by simp [vis, cyc], p, ⟨hp, rfl, by simp [vis], by simp⟩, by simp [vis, cyc, pm]⟩
  | i + 1, h => by
    obtain ⟨h1, h2, h3, h4, h5, h6, q, h7, h8⟩ := vis_all hp i (by omega)
    by_cases hi : i ∈ vis p i
    · rw [vis_old hi, cyc_old hi]
      exact ⟨h1, h2, fun j hj => by by_cases e : j = i; · subst e; exact hi
                                    · exact h3 j (by omega), h4, h5, h6, q, h7, h8⟩
    · obtain ⟨c1, c2, c3, c4, q', c5, c6⟩ := orb_cycle hp h7 h1 h2 (by omega) hi
      rw [vis_succ, cyc_new hi]
      have hpos := c1.pos
      refine ⟨c2, c3, ?_, ?_, ?_, ?_, q', c5, ?_⟩
      · intro j hj
        by_cases e : j = i
        · subst e; exact List.mem_append_right _ c4
        · exact List.mem_append_left _ (h3 j (by omega))
      · intro c hc
        rcases List.mem_append.1 hc with h' | h'
        · exact h4 c h'
        · rw [List.mem_singleton.1 h']; exact c1
      · rw [List.length_append, h5, List.map_append, List.sum_append]; simp
      · simp; omega
      · rw [c6, h8, Int.mul_assoc, ← pm_add]
        congr 2
        simp; omega

theorem vis_length {p : List Int} (hp : OkP p) : (vis p p.length).length = p.length := by
  obtain ⟨h1, h2, h3, _⟩ := vis_all hp p.length (Nat.le_refl _)
  have a := length_le_of_small h1 h2
  have key : (iota p.length).length ≤ (nats (vis p p.length)).length := by
    have := length_le_of_small (V := List.range p.length) (n := p.length) List.nodup_range (fun j hj => List.mem_range.1 hj)
    have hk : ∀ (a b : List Nat), a.Nodup → (∀ x ∈ a, x ∈ b) → a.length ≤ b.length := by
      intro a
      induction a with
      | nil => intro b _ _; exact Nat.zero_le _
      | cons x a ih =>
        intro b hn hs
        have hx : x ∈ b := hs x (by simp)
        have hn' := List.nodup_cons.1 hn
        have hl : (b.erase x).length = b.length - 1 := List.length_erase_of_mem hx
        have hpos : 0 < b.length := List.length_pos_of_mem hx
        have := ih (b.erase x) hn'.2 (fun y hy => (List.mem_erase_of_ne (fun e => by subst e; exact hn'.1 hy)).2 (hs y (by simp [hy])))
        simp; omega
    have := hk (List.range p.length) (vis p p.length) List.nodup_range (fun x hx => h3 x (List.mem_range.1 hx))
    rw [iota_length, nats_length]; simpa using this
  rw [iota_length, nats_length] at key
  omega
/-- The sign by the number of cycles. -/
theorem sign_cycles {p : List Int} (hp : OkP p) : (cyc p p.length).length ≤ p.length ∧ pm (invs p) = pm (p.length - (cyc p p.length).length) := by
  obtain ⟨h1, h2, h3, h4, h5, h6, q, h7, h8⟩ := vis_all hp p.length (Nat.le_refl _)
  rw [vis_length hp] at h6 h8
  refine ⟨h6, ?_⟩
  have hq : q = iota q.length := iota_of_fixed fun j hj => h7.fixed j (h3 j (by rw [← h7.len]; exact hj))
  have : pm (invs q) = 1 := by rw [hq, invs_iota]; rfl
  rw [this] at h8
  have hor : ∀ n, pm n = 1 ∨ pm n = -1 := fun n => by unfold pm; split <;> simp
  rcases hor (invs p) with a | a <;> rcases hor (p.length - (cyc p p.length).length) with b | b <;> rw [a, b] at h8 <;> rw [a, b] <;> omega
/-- The sign by the even cycles, so far. -/
def evens (p : List Int) (i : Nat) : Nat := (cyc p i).countP fun c => decide (c.length % 2 = 0)
theorem sign_evens {p : List Int} (hp : OkP p) : pm (invs p) = pm (evens p p.length) := by
  obtain ⟨_, _, _, h4, h5, _⟩ := vis_all hp p.length (Nat.le_refl _)
  rw [vis_length hp] at h5
  obtain ⟨h6, h7⟩ := sign_cycles hp
  rw [h7]
  apply pm_par
  unfold evens
  have key : ∀ L : List (List Nat), (∀ c ∈ L, 0 < c.length) → L.length ≤ (L.map List.length).sum ∧ ((L.map List.length).sum - L.length) % 2 = (L.countP fun c => decide (c.length % 2 = 0)) % 2 := by
    intro L
    induction L with
    | nil => intro _; simp
    | cons c L ih =>
      intro h
      obtain ⟨i1, i2⟩ := ih fun c hc => h c (by simp [hc])
      have hc := h c (by simp)
      refine ⟨by simp; omega, ?_⟩
      rw [List.countP_cons, List.map_cons, List.sum_cons, List.length_cons]
      by_cases e : c.length % 2 = 0
      · simp only [e, decide_true, if_true]; omega
      · simp only [e, decide_false, Bool.false_eq_true, if_false]; omega
  have := (key (cyc p p.length) (fun c hc => (h4 c hc).pos)).2
  rw [← h5] at this
  exact this

end P
namespace P

theorem invTo_at {p : List Int} {j : Nat} (h : j < p.length) (hm : (j : Int) ∈ p) : (invTo p p.length)[j]? = some ((p.idxOf (j : Int) : Nat) : Int) := by
  unfold invTo; simp [h, hm]
theorem at_idxOf {p : List Int} {x : Int} (h : x ∈ p) : p[p.idxOf x]? = some x := by
  have hl := List.idxOf_lt_length_of_mem h
  rw [List.getElem?_eq_getElem hl, List.getElem_idxOf]
/-- Composing with the inverse is the identity. -/
theorem comp_inv {p : List Int} (hp : OkP p) : pickAt p (invTo p p.length) = iota p.length := by
  apply List.ext_getElem?
  intro j
  by_cases hj : j < p.length
  · have hm := hp.mem (x := (j : Int)) (by omega) (by omega)
    rw [iota_at hj, pickAt_at (invTo_at hj hm) (at_idxOf hm)]
  · rw [List.getElem?_eq_none (by rw [pickAt_length, invTo_length]; omega), List.getElem?_eq_none (by rw [iota_length]; omega)]
theorem inv_ok {p : List Int} (hp : OkP p) : OkP (invTo p p.length) := by
  have hval : ∀ j, j < p.length → ∃ m : Nat, (invTo p p.length)[j]? = some (m : Int) ∧ m < p.length ∧ p[m]? = some (j : Int) := by
    intro j hj
    have hm := hp.mem (x := (j : Int)) (by omega) (by omega)
    exact ⟨_, invTo_at hj hm, List.idxOf_lt_length_of_mem hm, at_idxOf hm⟩
  refine ⟨by rw [invTo_length]; exact hp.1, ?_, ?_⟩
  · intro x hx
    obtain ⟨j, hj, e⟩ := List.getElem_of_mem hx
    rw [invTo_length] at hj
    obtain ⟨m, h1, h2, _⟩ := hval j hj
    rw [List.getElem?_eq_getElem (by rw [invTo_length]; exact hj)] at h1
    have := Option.some.inj h1
    rw [invTo_length]; omega
  · rw [List.nodup_iff_pairwise_ne, List.pairwise_iff_getElem]
    intro a b ha hb hab e
    rw [invTo_length] at ha hb
    obtain ⟨m, h1, h2, h3⟩ := hval a ha
    obtain ⟨m', h1', h2', h3'⟩ := hval b hb
    rw [List.getElem?_eq_getElem (by rw [invTo_length]; exact ha)] at h1
    rw [List.getElem?_eq_getElem (by rw [invTo_length]; exact hb)] at h1'
    have e1 := Option.some.inj h1
    have e2 := Option.some.inj h1'
    have : m = m' := by omega
    subst this
    rw [h3] at h3'
    have := Option.some.inj h3'
    omega
/-- Applying the inverse to what was arranged restores the list. -/
theorem back_inv {p l : List Int} (hp : OkP p) (h : p.length = l.length) : pickAt (pickAt l p) (invTo p p.length) = l := by
  apply List.ext_getElem?
  intro j
  by_cases hj : j < l.length
  · have hm := hp.mem (x := (j : Int)) (by omega) (by omega)
    rw [pickAt_at (invTo_at (by omega) hm) (pickAt_at (at_idxOf hm) (at_getD hj)), at_getD hj]
  · rw [List.getElem?_eq_none (by rw [pickAt_length, invTo_length]; omega), List.getElem?_eq_none (by omega)]
/-- Applying a composition is applying its parts in order. -/
theorem pick_pick {p q l : List Int} (hq : OkP q) (h : p.length = q.length) : pickAt (pickAt l p) q = pickAt l (pickAt p q) := by
  apply List.ext_getElem?
  intro j
  by_cases hj : j < q.length
  · have hv := hq.val hj
    obtain ⟨m, hm⟩ : ∃ m : Nat, q.getD j 0 = m := ⟨(q.getD j 0).toNat, by omega⟩
    have hml : m < p.length := by omega
    have e1 : (pickAt (pickAt l p) q).getD j 0 = (pickAt l p).getD (q.getD j 0).toNat 0 := pickAt_getD hj
    have e2 : (pickAt l (pickAt p q)).getD j 0 = l.getD ((pickAt p q).getD j 0).toNat 0 := pickAt_getD (by rw [pickAt_length]; exact hj)
    have e3 : (pickAt p q).getD j 0 = p.getD (q.getD j 0).toNat 0 := pickAt_getD hj
    have e4 : (pickAt l p).getD m 0 = l.getD (p.getD m 0).toNat 0 := pickAt_getD hml
    rw [at_getD (by rw [pickAt_length]; exact hj), at_getD (by rw [pickAt_length, pickAt_length]; exact hj), e1, e2, e3, hm, Int.toNat_natCast, e4]
  · rw [List.getElem?_eq_none (by rw [pickAt_length]; omega), List.getElem?_eq_none (by rw [pickAt_length, pickAt_length]; omega)]

end P
end Go.Proofs.Ythmcjmjkmmbepaa
