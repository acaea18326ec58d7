/- The least and the greatest, pure. Nothing of the program. -/
import Derived.Test.YthmcjmjkmmbepaaSelP
namespace Go.Proofs.Ythmcjmjkmmbepaa
open P El Qk
set_option linter.unusedVariables false
namespace Sl

/-- lo and hi are the least and the greatest of the first k. -/
def MM (L : List Int) (k : Nat) (lo hi : Int) : Prop := (∃ j, j < k ∧ lo = L.getD j 0) ∧ (∃ j, j < k ∧ hi = L.getD j 0) ∧ ∀ j, j < k → lo ≤ L.getD j 0 ∧ L.getD j 0 ≤ hi
theorem MM.one (L : List Int) : MM L 1 (L.getD 0 0) (L.getD 0 0) := ⟨⟨0, by omega, rfl⟩, ⟨0, by omega, rfl⟩, fun j hj => by rw [show j = 0 by omega]; exact ⟨Int.le_refl _, Int.le_refl _⟩⟩
theorem MM.two (L : List Int) : MM L 2 (min (L.getD 0 0) (L.getD 1 0)) (max (L.getD 0 0) (L.getD 1 0)) := by
  refine ⟨?_, ?_, fun j hj => ?_⟩
  · by_cases h : L.getD 0 0 ≤ L.getD 1 0
    · exact ⟨0, by omega, by omega⟩
    · exact ⟨1, by omega, by omega⟩
  · by_cases h : L.getD 0 0 ≤ L.getD 1 0
    · exact ⟨1, by omega, by omega⟩
    · exact ⟨0, by omega, by omega⟩
  · have : j = 0 ∨ j = 1 := by omega
    rcases this with rfl | rfl <;> omega
theorem MM.pair {L : List Int} {k : Nat} {lo hi : Int} (h : MM L k lo hi) : MM L (k + 2) (min lo (min (L.getD k 0) (L.getD (k + 1) 0))) (max hi (max (L.getD k 0) (L.getD (k + 1) 0))) := by
  obtain ⟨⟨a, ha, e1⟩, ⟨b, hb, e2⟩, h3⟩ := h
  refine ⟨?_, ?_, fun j hj => ?_⟩
  · by_cases h1 : lo ≤ min (L.getD k 0) (L.getD (k + 1) 0)
    · exact ⟨a, by omega, by omega⟩
    · by_cases h2 : L.getD k 0 ≤ L.getD (k + 1) 0
      · exact ⟨k, by omega, by omega⟩
      · exact ⟨k + 1, by omega, by omega⟩
  · by_cases h1 : max (L.getD k 0) (L.getD (k + 1) 0) ≤ hi
    · exact ⟨b, by omega, by omega⟩
    · by_cases h2 : L.getD k 0 ≤ L.getD (k + 1) 0
      · exact ⟨k + 1, by omega, by omega⟩
      · exact ⟨k, by omega, by omega⟩
  · by_cases hjk : j < k
    · have := h3 j hjk; omega
    · have : j = k ∨ j = k + 1 := by omega
      rcases this with rfl | rfl <;> omega
/-- The ends of the sorted list. -/
theorem MM.srt {L : List Int} {lo hi : Int} (h0 : 0 < L.length) (h : MM L L.length lo hi) : lo = (srt L).getD 0 0 ∧ hi = (srt L).getD (L.length - 1) 0 := by
  obtain ⟨⟨a, ha, e1⟩, ⟨b, hb, e2⟩, h3⟩ := h
  have hl := srt_length L
  have hasc := srt_asc L
  have hp := srt_perm L
  have hin : ∀ k, k < L.length → ∃ j, j < L.length ∧ (El.srt L).getD k 0 = L.getD j 0 := fun k hk => by
    have := List.mem_of_getElem? (at_getD (l := El.srt L) (k := k) (by omega))
    obtain ⟨j, hj, e⟩ := List.getElem_of_mem (hp.mem_iff.1 this)
    exact ⟨j, hj, by rw [← e, List.getD_eq_getElem?_getD, List.getElem?_eq_getElem hj]; rfl⟩
  have hin2 : ∀ j, j < L.length → ∃ k, k < L.length ∧ L.getD j 0 = (El.srt L).getD k 0 := fun j hj => by
    have := List.mem_of_getElem? (at_getD (l := L) (k := j) hj)
    obtain ⟨k, hk, e⟩ := List.getElem_of_mem (hp.mem_iff.2 this)
    exact ⟨k, by omega, by rw [← e, List.getD_eq_getElem?_getD (l := El.srt L), List.getElem?_eq_getElem hk]; rfl⟩
  have hmono : ∀ i j, i ≤ j → j < L.length → (El.srt L).getD i 0 ≤ (El.srt L).getD j 0 := fun i j hij hj => by
    rcases Nat.lt_or_ge i j with h | h
    · exact asc_at hasc h (by omega)
    · rw [show i = j by omega]; exact Int.le_refl _
  obtain ⟨j0, hj0, f0⟩ := hin 0 h0
  obtain ⟨jn, hjn, fn⟩ := hin (L.length - 1) (by omega)
  obtain ⟨ka, hka, ga⟩ := hin2 a ha
  obtain ⟨kb, hkb, gb⟩ := hin2 b hb
  have m1 := hmono 0 ka (by omega) hka
  have m2 := hmono kb (L.length - 1) (by omega) (by omega)
  have := h3 j0 hj0
  have := h3 jn hjn
  constructor <;> omega

/-- The number of comparisons. -/
def mmC (n : Nat) : Nat := if n % 2 = 0 then 3 * (n / 2) - 2 else 3 * (n / 2)
def mmAll (l : List Int) : Int × Int × Int × Bool := if OkL l ∧ 0 < l.length then ((srt l).getD 0 0, (srt l).getD (l.length - 1) 0, (mmC l.length : Nat), true) else (0, 0, 0, false)
theorem mmAll_yes {l : List Int} (h : OkL l ∧ 0 < l.length) : mmAll l = ((srt l).getD 0 0, (srt l).getD (l.length - 1) 0, ((mmC l.length : Nat) : Int), true) := if_pos h
theorem mmAll_no {l : List Int} (h : ¬ (OkL l ∧ 0 < l.length)) : mmAll l = (0, 0, 0, false) := if_neg h

end Sl
end Go.Proofs.Ythmcjmjkmmbepaa
