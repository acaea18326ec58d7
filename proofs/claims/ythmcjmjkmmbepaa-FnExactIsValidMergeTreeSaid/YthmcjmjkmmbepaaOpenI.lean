/- A list of numbers that came in, opened. -/
import Derived.Test.YthmcjmjkmmbepaaInts
import Derived.ChangeSlices
import Derived.ChangeArms
namespace Go.Proofs.Ythmcjmjkmmbepaa
open Go.RowKit Go.ChangeShapes

theorem open_intl {H : Type} {enc : TypeId × Value → H} {W : World} {a : Option Addr} {len cap fuel : Nat} {x : DataW H × List MemPlace}
    (h : DataW.trod enc Try.prog W 0 (fun _ => true) true fuel 34 [.slice a len cap] = some x) : ∃ l : List Int, l.length = len ∧ len ≤ maxLen ∧ FlatAt W (.slice a len cap) l.length (ints l) := by
  rcases open_ints Try.underlying34 Try.underlying3 (by kernel_rfl) h with ⟨hc, _⟩ | ⟨b, len', cap', zs, hc, _, hl, hm, hz, _, hcell, _⟩
  · simp at hc
    obtain ⟨rfl, rfl, rfl⟩ := hc
    exact ⟨[], rfl, by decide, none, 0, rfl, Nat.le_refl _, fun j u hu => by simp [ints] at hu⟩
  · simp at hc
    obtain ⟨rfl, rfl, rfl⟩ := hc
    have hlz : len ≤ zs.length := by rw [hz]; split <;> omega
    have hlen : (zs.take len).length = len := by rw [List.length_take]; omega
    refine ⟨zs.take len, hlen, by omega, some b, cap, by rw [hlen], by rw [hlen]; exact hl, fun j u hu => ?_⟩
    have hj : j < len := by
      have := (List.getElem?_eq_some_iff.1 hu).1
      rw [ints_length, hlen] at this; exact this
    have hjz : j < zs.length := by omega
    have hu2 : u = .int .i64 zs[j] := by
      unfold ints at hu
      rw [List.getElem?_map, List.getElem?_take_of_lt hj, List.getElem?_eq_getElem hjz] at hu
      exact (Option.some.inj hu).symm
    have hc := hcell j hjz
    have hd : zs.getD j 0 = zs[j] := by simp [List.getD, hjz]
    rw [hd, ← hu2] at hc
    have h00 := hcell 0 (by omega)
    obtain ⟨bb, oo, spot⟩ := b
    have hspot : spot = none := by simpa [Addr.add] using World.cell?_spot h00
    subst hspot
    have hadd : (⟨bb, oo, none⟩ : Addr).add j = ⟨bb, oo + j, none⟩ := by
      unfold Addr.add; split
      · rename_i h; subst h; rfl
      · rfl
    rw [hadd] at hc
    exact ⟨bb, oo, rfl, World.block_lt_of_cell? W _ hc, hc⟩

end Go.Proofs.Ythmcjmjkmmbepaa
