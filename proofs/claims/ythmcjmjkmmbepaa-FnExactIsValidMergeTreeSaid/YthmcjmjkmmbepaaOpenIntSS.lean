/- [][]int that came in, opened. (openss.py) -/
import Derived.Test.YthmcjmjkmmbepaaNest
import Derived.Test.YthmcjmjkmmbepaaOpenI
import Derived.Deep.Slices
import Derived.ChangeArms
namespace Go.Proofs.Ythmcjmjkmmbepaa
open Go.RowKit Go.Deep

theorem open_intu {H : Type} {enc : TypeId × Value → H} {W : World} {u : Value} {fuel : Nat} {x : DataW H × List MemPlace}
    (h : DataW.trod enc Try.prog W 0 (fun _ => true) true fuel 34 [u] = some x) : ∃ l : List Int, FlatAt W u l.length (ints l) ∧ l.length ≤ maxLen := by
  have h1 := h
  rcases DataW.trod_slice Try.underlying34 h1 with ⟨e, _⟩ | ⟨a, len, cap, _, _, _, _, e, _⟩
  · simp at e
    subst e
    obtain ⟨l, e, hm, hf⟩ := open_intl h
    exact ⟨l, hf, by rw [e]; exact hm⟩
  · simp at e
    subst e
    obtain ⟨l, e, hm, hf⟩ := open_intl h
    exact ⟨l, hf, by rw [e]; exact hm⟩

theorem cellsIntSSE : Try.prog.cellsOf 34 = 1 := by kernel_rfl

set_option maxRecDepth 100000 in
theorem open_IntSS {H : Type} {enc : TypeId × Value → H} {W : World} {a : Option Addr} {len cap fuel : Nat} {x : DataW H × List MemPlace}
    (h : DataW.trod enc Try.prog W 0 (fun _ => true) true fuel 45 [.slice a len cap] = some x) : ∃ M : List (List Int), RowsAt W (.slice a len cap) (M.map ints) ∧ M.length ≤ maxLen ∧ ∀ (j : Nat) x, M[j]? = some x → x.length ≤ maxLen := by
  rcases open_slice1 Try.underlying45 cellsIntSSE h with ⟨hc, _⟩ | ⟨b, len', cap', m, fu, V, D, Pl, hc, _, hl, hm, hmm, _, hall⟩
  · simp at hc
    obtain ⟨rfl, rfl, rfl⟩ := hc
    exact ⟨[], ⟨none, 0, rfl, Nat.le_refl _, fun j cs hcs => by simp at hcs⟩, by simp, fun j x hx => by simp at hx⟩
  · simp at hc
    obtain ⟨rfl, rfl, rfl⟩ := hc
    have hlm : len ≤ m := by rw [hmm]; split <;> omega
    have each : ∀ i, i < len → ∃ q : Value × List Int, W.cell? (b.add i) = some q.1 ∧ FlatAt W q.1 q.2.length (ints q.2) ∧ q.2.length ≤ maxLen := by
      intro i hi
      obtain ⟨h0, t0⟩ := hall i (by omega)
      obtain ⟨l, hf, hm⟩ := open_intu t0
      exact ⟨(V i, l), h0, hf, hm⟩
    obtain ⟨p, hp⟩ := choose_lt each
    have hat : ∀ j, j < len → ((List.range len).map fun i => (p i).2)[j]? = some (p j).2 := fun j hj => by
      rw [List.getElem?_map, List.getElem?_range hj]; rfl
    refine ⟨(List.range len).map fun i => (p i).2, ⟨some b, cap, by simp, by simpa using hl, fun j cs hcs => ?_⟩, by simp; omega, fun j x hx => ?_⟩
    · have hj : j < len := by simpa using (List.getElem?_eq_some_iff.1 hcs).1
      have hcell := (hp j hj).1
      rw [List.getElem?_map, hat j hj] at hcs
      obtain rfl := Option.some.inj hcs
      obtain ⟨bb, oo, spot⟩ := b
      have h00 := (hp 0 (by omega)).1
      have hspot : spot = none := by simpa [Addr.add] using World.cell?_spot h00
      subst hspot
      have hadd : (⟨bb, oo, none⟩ : Addr).add j = ⟨bb, oo + j, none⟩ := by
        unfold Addr.add; split
        · rename_i h; subst h; rfl
        · rfl
      rw [hadd] at hcell
      exact ⟨bb, oo, _, rfl, World.block_lt_of_cell? W _ hcell, hcell, by first | exact (hp j hj).2.1 | (rw [ints_length]; exact (hp j hj).2.1)⟩
    · have hj : j < len := by simpa using (List.getElem?_eq_some_iff.1 hx).1
      rw [hat j hj] at hx
      obtain rfl := Option.some.inj hx
      exact (hp j hj).2.2

end Go.Proofs.Ythmcjmjkmmbepaa
