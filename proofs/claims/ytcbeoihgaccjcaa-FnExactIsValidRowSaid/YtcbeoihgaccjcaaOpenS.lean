/- Lists of strings that came in, opened. -/
import Derived.Test.YtcbeoihgaccjcaaStrB
import Derived.SliceStrings
import Derived.ChangeArms
namespace Go.Proofs.Ytcbeoihgaccjcaa
open Go.RowKit Go.ChangeShapes

theorem open_strl {H : Type} {enc : TypeId × Value → H} {W : World} {a : Option Addr} {len cap fuel : Nat} {x : DataW H × List MemPlace}
    (hf : DataW.trod enc Try.prog W 0 (fun _ => true) true fuel 49 [.slice a len cap] = some x) : ∃ xs : List ByteArray, StrsAt W (.slice a len cap) xs ∧ xs.length ≤ maxLen ∧ ∀ (j : Nat) x, xs[j]? = some x → x.size ≤ maxLen := by
  rcases open_strings Try.underlying49 Try.underlying9 (by kernel_rfl) hf with ⟨hcs, _⟩ | ⟨x, l, c, ss, hcs, hbb, hl, hm, hz, _, hcell, hws⟩
  · simp at hcs
    obtain ⟨rfl, rfl, rfl⟩ := hcs
    exact ⟨[], ⟨none, 0, rfl, Nat.le_refl _, fun j x h => by simp at h⟩, by simp, fun j x h => by simp at h⟩
  · simp at hcs
    obtain ⟨rfl, rfl, rfl⟩ := hcs
    have hlz : len ≤ ss.length := by rw [hz]; split <;> omega
    have hlen : (ss.take len).length = len := by rw [List.length_take]; omega
    refine ⟨ss.take len, ⟨some x, _, by rw [hlen], by rw [hlen]; exact hl, fun j y hy => ?_⟩, by rw [hlen]; omega, fun j y hy => ?_⟩
    · have hj : j < len := by have := (List.getElem?_eq_some_iff.1 hy).1; omega
      have hy2 : ss[j]? = some y := by rw [List.getElem?_take_of_lt hj] at hy; exact hy
      have hc := hcell j (List.getElem?_eq_some_iff.1 hy2).1
      have hd : ss.getD j ByteArray.empty = y := by simp [List.getD, hy2]
      rw [hd] at hc
      obtain ⟨bb, oo, spot⟩ := x
      have hc0 := hcell 0 (Nat.lt_of_le_of_lt (Nat.zero_le _) (List.getElem?_eq_some_iff.1 hy2).1)
      have hspot : spot = none := by simpa [Addr.add] using World.cell?_spot hc0
      subst hspot
      have hadd : (⟨bb, oo, none⟩ : Addr).add j = ⟨bb, oo + j, none⟩ := by
        unfold Addr.add; split
        · rename_i h; subst h; rfl
        · rfl
      rw [hadd] at hc
      exact ⟨bb, oo, rfl, World.block_lt_of_cell? W _ hc, hc⟩
    · have hj : j < len := by have := (List.getElem?_eq_some_iff.1 hy).1; omega
      have hy2 : ss[j]? = some y := by rw [List.getElem?_take_of_lt hj] at hy; exact hy
      exact hws y (List.mem_of_getElem? hy2)

end Go.Proofs.Ytcbeoihgaccjcaa
