/- A tree of levels that came in, opened. -/
import Derived.Test.YthmcjmjkmmbepaaOpenIntSS
import Derived.ChangeSlices
import Derived.ChangeArms
import Derived.ChangeSame
import Derived.WideShapes
import Derived.Deep.CutRange
import Derived.Deep.RegionWith
namespace Go.Proofs.Ythmcjmjkmmbepaa
open Go.RowKit Go.ChangeShapes Go.WideShapes

theorem arr_one {α : Type} {cs : Array α} (h : cs.size = 1) : ∃ v, cs = #[v] := by
  obtain ⟨l⟩ := cs
  obtain ⟨v, hv⟩ := List.length_eq_one_iff.1 (show l.length = 1 from h)
  exact ⟨v, by rw [hv]⟩

theorem cellsMtL : Try.prog.cellsOf 47 = 1 := by kernel_rfl
theorem cellsMtF : Try.prog.cellsOf 45 = 1 := by kernel_rfl

set_option maxRecDepth 100000 in
theorem open_mtc {H : Type} {enc : TypeId × Value → H} {W : World} {cs : List Value} {fuel : Nat} {x : DataW H × List MemPlace}
    (hf : DataW.trod enc Try.prog W 0 (fun _ => true) true fuel 47 cs = some x) :
    ∃ v, cs = [v] ∧ ∃ M : List (List Int), RowsAt W v (M.map ints) ∧ M.length ≤ maxLen ∧ ∀ (j : Nat) x, M[j]? = some x → x.length ≤ maxLen := by
  obtain ⟨ys, n, _, _, hl, hlen, hh⟩ := DataW.trod_struct Try.underlying47 hf
  rw [cellsMtL] at hl
  obtain ⟨v, rfl⟩ := List.length_eq_one_iff.1 hl
  obtain ⟨y, rfl⟩ := List.length_eq_one_iff.1 (show ys.length = 1 from hlen)
  · have g0 := hh 0 _ rfl
    simp [cellsMtF] at g0
    have g1 := g0
    rcases DataW.trod_slice Try.underlying45 g0 with ⟨e, _⟩ | ⟨a, len, cap, _, _, _, _, e, _⟩
    · simp at e
      subst e
      exact ⟨_, rfl, open_IntSS g1⟩
    · simp at e
      subst e
      exact ⟨_, rfl, open_IntSS g1⟩

set_option maxRecDepth 100000 in
theorem open_mt {H : Type} {enc : TypeId × Value → H} {W : World} {r : Reach} {base : Nat} {v : Value} {fuel : Nat} {x : DataW H × List MemPlace}
    (hw : Value.okWide Try.prog W r base 47 v) (hf : DataW.trod enc Try.prog W 0 (fun _ => true) true fuel 47 v.cells.toList = some x) :
    ∃ (u : Value) (M : List (List Int)), v = .agg #[u] ∧ RowsAt W u (M.map ints) ∧ M.length ≤ maxLen ∧ ∀ (j : Nat) x, M[j]? = some x → x.length ≤ maxLen := by
  obtain ⟨cs, rfl, hsz⟩ := okWide_struct Try.underlying47 hw
  rw [cellsMtL] at hsz
  obtain ⟨v, rfl⟩ := arr_one hsz
  obtain ⟨u, e, M, h1, h2, h3⟩ := open_mtc hf
  have e2 : v = u := by simpa [Value.cells] using e
  subst e2
  exact ⟨_, M, rfl, h1, h2, h3⟩

end Go.Proofs.Ythmcjmjkmmbepaa
