/- Decimal numerals as plain lists of bytes: what they spell, and that Atoi reads back what they spell; nothing of the program. -/
import Derived.Lib.ItoaNum
import Derived.Lib.ItoaMem
import Derived.Lib.AtoiAll
import Derived.Lib.AtoiAllCases
namespace Go.Proofs.YtcbeoihgaccjcaaDoor

def nf (acc : Nat) (l : List UInt8) : Nat := l.foldl (fun a c => a * 10 + (c.toNat - 48)) acc
def allD (l : List UInt8) : Prop := ∀ c ∈ l, 48 ≤ c.toNat ∧ c.toNat ≤ 57

theorem nf_snoc (acc : Nat) (l : List UInt8) (c : UInt8) : nf acc (l ++ [c]) = nf acc l * 10 + (c.toNat - 48) := by
  unfold nf; rw [List.foldl_append]; rfl

theorem nf_ge (l : List UInt8) : ∀ acc, acc ≤ nf acc l := by
  induction l with
  | nil => intro acc; exact Nat.le_refl _
  | cons c r ih =>
    intro acc
    have := ih (acc * 10 + (c.toNat - 48))
    show acc ≤ nf (acc * 10 + (c.toNat - 48)) r
    omega

theorem nf_lt (k : Nat) : ∀ l : List UInt8, allD l → l.length ≤ k → nf 0 l < 10 ^ k := by
  induction k with
  | zero =>
    intro l _ h
    obtain rfl : l = [] := List.eq_nil_of_length_eq_zero (by omega)
    simp [nf]
  | succ k ih =>
    intro l hd h
    rcases List.eq_nil_or_concat l with rfl | ⟨r, c, rfl⟩
    · exact Nat.pow_pos (by decide)
    · rw [List.concat_eq_append] at *
      rw [nf_snoc, Nat.pow_succ]
      have h1 := ih r (fun x hx => hd x (by simp [hx])) (by simp at h; omega)
      have h2 := hd c (by simp)
      omega

theorem digit_nat (d : Nat) (h : d < 10) : (UInt8.ofNat (48 + d)).toNat = 48 + d := by
  simp; omega

theorem dec_all (u : Nat) : allD (Lib.decDigits u) := by
  induction u using Nat.strongRecOn with
  | _ u ih =>
    rw [Lib.decDigits]
    split
    · intro c hc
      simp only [List.mem_singleton] at hc
      subst hc
      rw [digit_nat u (by omega)]; omega
    · intro c hc
      simp only [List.mem_append, List.mem_singleton] at hc
      rcases hc with hc | hc
      · exact ih (u / 10) (by omega) c hc
      · subst hc
        rw [digit_nat _ (by omega)]; omega

theorem dec_nf (u : Nat) : nf 0 (Lib.decDigits u) = u := by
  induction u using Nat.strongRecOn with
  | _ u ih =>
    rw [Lib.decDigits]
    split
    · show 0 * 10 + ((UInt8.ofNat (48 + u)).toNat - 48) = u
      rw [digit_nat u (by omega)]; omega
    · rw [nf_snoc, ih (u / 10) (by omega), digit_nat _ (by omega)]; omega

theorem dec_pos (u : Nat) : 1 ≤ (Lib.decDigits u).length := by
  rw [Lib.decDigits]; split <;> simp

theorem dec_le (k : Nat) : ∀ u, u < 10 ^ (k + 1) → (Lib.decDigits u).length ≤ k + 1 := by
  induction k with
  | zero => intro u h; rw [Lib.decDigits_one (by simpa using h)]; simp
  | succ k ih =>
    intro u h
    rw [Lib.decDigits]
    split
    · simp
    · have := ih (u / 10) (by rw [Nat.pow_succ] at h; omega)
      simp; omega

theorem dec_cons (u : Nat) : ∃ c r, Lib.decDigits u = c :: r ∧ 48 ≤ c.toNat ∧ c.toNat ≤ 57 := by
  cases h : Lib.decDigits u with
  | nil => have := dec_pos u; rw [h] at this; simp at this
  | cons c r => exact ⟨c, r, rfl, dec_all u c (by rw [h]; simp)⟩

theorem dec_inj {u v : Nat} (h : Lib.decDigits u = Lib.decDigits v) : u = v := by rw [← dec_nf u, ← dec_nf v, h]

theorem itoa_inj {m n : Int} (h : Lib.itoa m = Lib.itoa n) : m = n := by
  unfold Lib.itoa at h
  obtain ⟨c, r, e, b1, b2⟩ := dec_cons m.toNat
  obtain ⟨c', r', e', b1', b2'⟩ := dec_cons n.toNat
  by_cases hm : m < 0 <;> by_cases hn : n < 0
  · rw [if_pos hm, if_pos hn] at h
    have := dec_inj (List.cons.inj h).2; omega
  · rw [if_pos hm, if_neg hn, e'] at h
    have h1 := (List.cons.inj h).1
    rw [← h1] at b1'; simp at b1'
  · rw [if_neg hm, if_pos hn, e] at h
    have h1 := (List.cons.inj h).1
    rw [h1] at b1; simp at b1
  · rw [if_neg hm, if_neg hn] at h
    have := dec_inj h; omega

theorem parse_nf (l : List UInt8) : ∀ acc, allD l → nf acc l < 1000000000000 → Lib.parseUint10 acc l = .ok (nf acc l) := by
  induction l with
  | nil => intro acc _ _; rfl
  | cons c r ih =>
    intro acc hd hb
    have h1 := hd c (by simp)
    have h2 : nf acc (c :: r) = nf (acc * 10 + (c.toNat - 48)) r := rfl
    rw [h2] at hb ⊢
    have h3 := nf_ge r (acc * 10 + (c.toNat - 48))
    simp only [Lib.parseUint10]
    rw [if_pos h1, if_neg (by omega), if_neg (by omega)]
    exact ih _ (fun x hx => hd x (by simp [hx])) hb

theorem parse_dec (u : Nat) (h : u ≤ 999999) : Lib.parseMag (Lib.decDigits u) = .ok u := by
  unfold Lib.parseMag
  rw [if_neg (by intro e; have := dec_pos u; rw [e] at this; simp at this), parse_nf _ 0 (dec_all u) (by rw [dec_nf]; omega), dec_nf]

/-- Atoi reads a numeral back. -/
theorem atoi_itoa (m : Int) (h0 : -999999 ≤ m) (h1 : m ≤ 999999) : Lib.atoiAll (Lib.itoa m) = .ok m := by
  unfold Lib.itoa
  by_cases h : m < 0
  · rw [if_pos h, Lib.atoiAll_minus, parse_dec _ (by omega)]
    simp only [Lib.signed]
    rw [if_neg (by omega)]
    congr 1; omega
  · rw [if_neg h]
    obtain ⟨c, r, e, b1, b2⟩ := dec_cons m.toNat
    have hp := parse_dec m.toNat (by omega)
    rw [e] at hp ⊢
    rw [Lib.atoiAll_plain c r (by omega) (by omega), hp]
    simp only [Lib.signless]
    rw [if_neg (by omega)]
    congr 1; omega

/-- What stands behind a sign, and what the whole spells. -/
def strip (l : List UInt8) : List UInt8 := if 1 < l.length ∧ l.head? = some 45 then l.drop 1 else l
def NoNum (l : List UInt8) : Prop := ∀ m : Int, -999999 ≤ m → m ≤ 999999 → Lib.itoa m ≠ l

theorem strip_itoa (m : Int) : strip (Lib.itoa m) = Lib.decDigits m.natAbs ∧ ((strip (Lib.itoa m)).length < (Lib.itoa m).length ↔ m < 0) := by
  have hp := dec_pos m.natAbs
  by_cases h : m < 0
  · have e : Lib.itoa m = 45 :: Lib.decDigits m.natAbs := by unfold Lib.itoa; rw [if_pos h]
    rw [e]
    unfold strip
    rw [if_pos ⟨by simp; omega, rfl⟩]
    simp; omega
  · have e : Lib.itoa m = Lib.decDigits m.natAbs := by unfold Lib.itoa; rw [if_neg h]; congr 1; omega
    rw [e]
    obtain ⟨c, r, e2, b1, b2⟩ := dec_cons m.natAbs
    unfold strip
    rw [e2, if_neg (by intro hh; have := hh.2; simp at this; subst this; simp at b1)]
    simp; omega

theorem no_len {l : List UInt8} (h : (strip l).length < 1 ∨ 6 < (strip l).length) : NoNum l := by
  intro m h0 h1 e
  have := (strip_itoa m).1
  rw [e] at this
  have hp := dec_pos m.natAbs
  have hl := dec_le 5 m.natAbs (by omega)
  rw [this] at h; omega

theorem no_digit {l : List UInt8} {c : UInt8} (hc : c ∈ strip l) (h : c.toNat < 48 ∨ 57 < c.toNat) : NoNum l := by
  intro m h0 h1 e
  have := (strip_itoa m).1
  rw [e] at this
  rw [this] at hc
  have := dec_all _ c hc; omega

theorem no_val_neg {l : List UInt8} (hl : (strip l).length < l.length) (h : Lib.itoa (-(nf 0 (strip l) : Int)) ≠ l) : NoNum l := by
  intro m h0 h1 e
  have h2 := strip_itoa m
  rw [e] at h2
  have hm := h2.2.1 hl
  rw [h2.1, dec_nf] at h
  apply h; rw [← e]; congr 1; omega

theorem no_val {l : List UInt8} (hl : ¬ (strip l).length < l.length) (h : Lib.itoa (nf 0 (strip l) : Int) ≠ l) : NoNum l := by
  intro m h0 h1 e
  have h2 := strip_itoa m
  rw [e] at h2
  have hm : ¬ m < 0 := fun hm => hl (h2.2.2 hm)
  rw [h2.1, dec_nf] at h
  apply h; rw [← e]; congr 1; omega

end Go.Proofs.YtcbeoihgaccjcaaDoor
