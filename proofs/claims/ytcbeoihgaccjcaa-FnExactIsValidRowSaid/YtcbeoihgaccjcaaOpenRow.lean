/- A row that came in, opened. -/
import Derived.Test.YtcbeoihgaccjcaaOpenS
import Derived.ChangeSame
import Derived.WideShapes
namespace Go.Proofs.Ytcbeoihgaccjcaa
open Go.RowKit Go.WideShapes

theorem arr_one {α : Type} {cs : Array α} (h : cs.size = 1) : ∃ v, cs = #[v] := by
  obtain ⟨l⟩ := cs
  obtain ⟨v, hv⟩ := List.length_eq_one_iff.1 (show l.length = 1 from h)
  exact ⟨v, by rw [hv]⟩

theorem cellsRowL : Try.prog.cellsOf 51 = 1 := by kernel_rfl
theorem cellsRowF : Try.prog.cellsOf 49 = 1 := by kernel_rfl

set_option maxRecDepth 100000 in
theorem open_rowc {H : Type} {enc : TypeId × Value → H} {W : World} {cs : List Value} {fuel : Nat} {x : DataW H × List MemPlace}
    (hf : DataW.trod enc Try.prog W 0 (fun _ => true) true fuel 51 cs = some x) :
    ∃ a len cap, cs = [.slice a len cap] ∧ ∃ xs : List ByteArray, StrsAt W (.slice a len cap) xs ∧ xs.length ≤ maxLen ∧ ∀ (j : Nat) x, xs[j]? = some x → x.size ≤ maxLen := by
  obtain ⟨ys, n, _, _, hl, hlen, hh⟩ := DataW.trod_struct Try.underlying51 hf
  rw [cellsRowL] at hl
  obtain ⟨v, rfl⟩ := List.length_eq_one_iff.1 hl
  obtain ⟨y, rfl⟩ := List.length_eq_one_iff.1 (show ys.length = 1 from hlen)
  · have g0 := hh 0 _ rfl
    simp [cellsRowF] at g0
    have g1 := g0
    rcases DataW.trod_slice Try.underlying49 g0 with ⟨e, _⟩ | ⟨a, len, cap, _, _, _, _, e, _⟩
    · simp at e
      subst e
      exact ⟨none, 0, 0, rfl, open_strl g1⟩
    · simp at e
      subst e
      exact ⟨some a, len, cap, rfl, open_strl g1⟩

set_option maxRecDepth 100000 in
theorem open_row {H : Type} {enc : TypeId × Value → H} {W : World} {r : Reach} {base : Nat} {v : Value} {fuel : Nat} {x : DataW H × List MemPlace}
    (hw : Value.okWide Try.prog W r base 51 v) (hf : DataW.trod enc Try.prog W 0 (fun _ => true) true fuel 51 v.cells.toList = some x) :
    ∃ (u : Value) (xs : List ByteArray), v = .agg #[u] ∧ StrsAt W u xs ∧ xs.length ≤ maxLen ∧ ∀ (j : Nat) x, xs[j]? = some x → x.size ≤ maxLen := by
  obtain ⟨cs, rfl, hsz⟩ := okWide_struct Try.underlying51 hw
  rw [cellsRowL] at hsz
  obtain ⟨v, rfl⟩ := arr_one hsz
  obtain ⟨a, len, cap, e, xs, h⟩ := open_rowc hf
  have e2 : v = .slice a len cap := by simpa [Value.cells] using e
  subst e2
  exact ⟨_, xs, rfl, h⟩

end Go.Proofs.Ytcbeoihgaccjcaa
