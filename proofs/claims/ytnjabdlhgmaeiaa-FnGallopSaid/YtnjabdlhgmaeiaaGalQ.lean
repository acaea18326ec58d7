/- What FnGallop says of the galloping search: pure. Nothing of the program. -/
import Derived.Test.YtnjabdlhgmaeiaaGalP
import Derived.WalkArith
namespace Go.Proofs.Ytnjabdlhgmaeiaa.Ga
open Go.Proofs.Ytnjabdlhgmaeiaa Go.Proofs.Ytnjabdlhgmaeiaa.El

theorem cnt_step (x : Int) {l : List Int} {k : Nat} (hk : k < l.length) : cnt x (l.take (k + 1)) = cnt x (l.take k) + if l.getD k 0 < x then 1 else 0 := by
  unfold cnt
  have h : l[k]? = some (l.getD k 0) := by rw [List.getD_eq_getElem?_getD, List.getElem?_eq_getElem hk]; rfl
  rw [List.take_add_one, h, List.countP_append]
  by_cases hx : l.getD k 0 < x
  · rw [if_pos hx]; simp; simpa using hx
  · rw [if_neg hx]; simp; simpa using hx
theorem cnt_yes {x : Int} {l : List Int} {k n : Nat} (hk : k < l.length) (hn : n = cnt x (l.take k)) (hx : l.getD k 0 < x) : n + 1 = cnt x (l.take (k + 1)) := by rw [cnt_step x hk, if_pos hx, hn]
theorem cnt_no {x : Int} {l : List Int} {k n : Nat} (hk : k < l.length) (hn : n = cnt x (l.take k)) (hx : ¬ l.getD k 0 < x) : n = cnt x (l.take (k + 1)) := by rw [cnt_step x hk, if_neg hx, hn]; rfl

theorem gal_facts {l : List Int} {x h : Int} (ho : OkGal l x h) : ∃ c c2 : Nat, galAll l x h = (((cnt x l : Nat) : Int), (c : Int), true) ∧ 1 ≤ c ∧ c ≤ 14 ∧ galAll l x ((l.length : Int) - 1 - h) = (((cnt x l : Nat) : Int), (c2 : Int), true) := by
  obtain ⟨h1, h2, h3, h4, h5⟩ := ho
  have hP := parts_cnt x l (asc_descF h2)
  have ho2 : OkGal l x ((l.length : Int) - 1 - h) := ⟨h1, h2, h3, by omega, by omega⟩
  obtain ⟨a1, a2, a3⟩ := galF_main (h := h.toNat) hP h1.1 (by omega)
  obtain ⟨b1, b2, b3⟩ := galF_main (h := ((l.length : Int) - 1 - h).toNat) hP h1.1 (by omega)
  exact ⟨(galF x l h.toNat).2, (galF x l ((l.length : Int) - 1 - h).toNat).2, by rw [galAll_yes ⟨h1, h2, h3, h4, h5⟩, a1], a2, a3, by rw [galAll_yes ho2, b1]⟩
theorem gal_ok {l : List Int} {x h A C : Int} (hg : galAll l x h = (A, C, true)) : OkGal l x h := by
  by_cases ho : OkGal l x h
  · exact ho
  · rw [galAll_no ho] at hg; simp at hg
theorem gal_no {l : List Int} {x h A C : Int} (hg : galAll l x h = (A, C, false)) : A = 0 ∧ C = 0 := by
  by_cases ho : OkGal l x h
  · rw [galAll_yes ho] at hg; simp at hg
  · rw [galAll_no ho] at hg; simp only [Prod.mk.injEq] at hg; exact ⟨hg.1.symm, hg.2.1.symm⟩

end Go.Proofs.Ytnjabdlhgmaeiaa.Ga
