/- Popping a heap, step by step against the ascending list, pure. -/
import Derived.Test.YtfcgnfhpfooelaaHeapA
namespace Go.Proofs.Ytfcgnfhpfooelaa
set_option linter.unusedVariables false
namespace Hp
open P El

theorem take_last {S : List Int} {m : Nat} (h : m < S.length) : S.take (m + 1) = S.take m ++ [S.getD m 0] := by
  rw [List.take_add_one, at_getD h]; rfl
theorem pop_step {d : Int} {K S : List Int} {m : Nat} (hK : IsHp K d) (hl : K.length = m + 1) (hp : K.Perm (S.take (m + 1))) (hs : Asc S) (hm : m < S.length) :
    ∃ R q, popAll K d = (R, S.getD m 0, q, true) ∧ R.length = m ∧ IsHp R d ∧ R.Perm (S.take m) := by
  have hd0 : 0 < d.toNat := hK.2.1.pos
  have h0 : 0 < K.length := by omega
  have htop : K.getD 0 0 = S.getD m 0 := by
    have h1 : S.getD m 0 ∈ K := hp.mem_iff.2 (by rw [take_last hm]; simp)
    obtain ⟨i, hi, e⟩ := List.getElem_of_mem h1
    have h2 := root_max hd0 hK.2.2 i hi
    have e2 : K.getD i 0 = S.getD m 0 := by rw [← e]; exact getD_at (List.getElem?_eq_getElem hi)
    have h3 : K.getD 0 0 ∈ S.take (m + 1) := hp.mem_iff.1 (List.mem_of_getElem? (at_getD h0))
    obtain ⟨j, hj, e3⟩ := List.getElem_of_mem h3
    have hj2 : j < m + 1 := by rw [List.length_take] at hj; omega
    have e4 : S.getD j 0 = K.getD 0 0 := by rw [← e3, List.getElem_take]; exact getD_at (List.getElem?_eq_getElem (by omega))
    have h4 : S.getD j 0 ≤ S.getD m 0 := by
      by_cases e : j = m
      · rw [e]; exact Int.le_refl _
      · exact asc_at hs (i := j) (j := m) (by omega) hm
    omega
  have hpp := pop_perm hd0 h0
  have hR : (popF d.toNat K).1.Perm (S.take m) := by
    rw [htop] at hpp
    have := hpp.trans hp
    rw [take_last hm] at this
    exact (this.trans List.perm_append_comm).cons_inv
  have hlen := popF_length hd0 K
  refine ⟨_, _, by rw [popAll_yes ⟨hK, h0⟩, htop], by rw [hlen]; omega, ⟨⟨by rw [hlen]; have := hK.1.1; omega, fun x hx => hK.1.2 x (hpp.mem_iff.1 (List.mem_cons_of_mem _ hx))⟩, hK.2.1, pop_heap hd0 hK.2.2⟩, hR⟩
theorem pop_nil (d : Int) : popAll [] d = ([], 0, 0, false) := popAll_no (fun h => absurd h.2 (by simp))
/-- What BuildHeap says, beside IsHeap. -/
theorem build_facts {l H : List Int} {d q A : Int} {ok tt : Bool} (hB : bldAll l d = (H, q, ok)) (hI : isAll l d = (A, tt)) :
    (ok = false → H = []) ∧ (ok = true → l.length ≤ 64 ∧ IsHp H d ∧ H.Perm (srt l) ∧ (A = -1 → H = l)) := by
  by_cases h : OkL l ∧ OkD d
  · rw [bldAll_yes h] at hB
    rw [isAll_yes h] at hI
    simp only [Prod.mk.injEq] at hB hI
    refine ⟨(fun hk => by rw [← hB.2.2] at hk; cases hk), fun _ => ?_⟩
    have hd0 : 0 < d.toNat := h.2.pos
    have hp := buildF_perm hd0 l
    have hh := buildF_heap hd0 l
    have hl := buildF_length hd0 l
    rw [hB.1] at hp hh hl
    refine ⟨h.1.1, ⟨⟨by rw [hl]; exact h.1.1, fun x hx => h.1.2 x (hp.mem_iff.1 hx)⟩, h.2, by rw [hl]; exact hh⟩, hp.trans (srt_perm l).symm, fun hA => ?_⟩
    rw [← hI.1] at hA
    have := bl_still (S := (l, 0)) hd0 (dfF_heap.1 hA) l.length
    rw [← hB.1]; unfold buildF; rw [this]
  · rw [bldAll_no h] at hB
    simp only [Prod.mk.injEq] at hB
    exact ⟨fun _ => hB.1.symm, (fun hk => by rw [← hB.2.2] at hk; cases hk)⟩
end Hp
end Go.Proofs.Ytfcgnfhpfooelaa
