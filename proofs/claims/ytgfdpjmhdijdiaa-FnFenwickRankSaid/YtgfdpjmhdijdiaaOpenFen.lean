/- A tree of sums that came in, opened. -/
import Derived.Test.YtgfdpjmhdijdiaaInts
import Derived.Test.YtgfdpjmhdijdiaaFenP
import Derived.ChangeSlices
import Derived.ChangeArms
import Derived.ChangeSame
import Derived.WideShapes
import Derived.Deep.CutRange
import Derived.Deep.RegionWith
namespace Go.Proofs.Ytgfdpjmhdijdiaa
open Go.RowKit Go.ChangeShapes Go.WideShapes

theorem open_intw {H : Type} {enc : TypeId × Value → H} {W : World} {a : Option Addr} {len cap fuel : Nat} {x : DataW H × List MemPlace}
    (h : DataW.trod enc Try.prog W 0 (fun _ => true) true fuel 22 [.slice a len cap] = some x) : ∃ l : List Int, l.length = len ∧ len ≤ maxLen ∧ FlatAt W (.slice a len cap) l.length (ints l) ∧ Fw.IsW l := by
  rcases open_ints Try.underlying22 Try.underlying3 (by kernel_rfl) h with ⟨hc, _⟩ | ⟨b, len', cap', zs, hc, _, hl, hm, hz, _, hcell, hwz⟩
  · simp at hc
    obtain ⟨rfl, rfl, rfl⟩ := hc
    exact ⟨[], rfl, by decide, ⟨none, 0, rfl, Nat.le_refl _, fun j u hu => by simp [ints] at hu⟩, fun x hx => by simp at hx⟩
  · simp at hc
    obtain ⟨rfl, rfl, rfl⟩ := hc
    have hlz : len ≤ zs.length := by rw [hz]; split <;> omega
    have hlen : (zs.take len).length = len := by rw [List.length_take]; omega
    refine ⟨zs.take len, hlen, by omega, ⟨some b, cap, by rw [hlen], by rw [hlen]; exact hl, fun j u hu => ?_⟩, fun x hx => ?_⟩
    · have hj : j < len := by
        have := (List.getElem?_eq_some_iff.1 hu).1
        rw [ints_length, hlen] at this; exact this
      have hjz : j < zs.length := by omega
      have hu2 : u = .int .i64 zs[j] := by
        unfold ints at hu
        rw [List.getElem?_map, List.getElem?_take_of_lt hj, List.getElem?_eq_getElem hjz] at hu
        exact (Option.some.inj hu).symm
      have hc := hcell j hjz
      have hd : zs.getD j 0 = zs[j] := by simp [List.getD, hjz]
      rw [hd, ← hu2] at hc
      have h00 := hcell 0 (by omega)
      obtain ⟨bb, oo, spot⟩ := b
      have hspot : spot = none := by simpa [Addr.add] using World.cell?_spot h00
      subst hspot
      have hadd : (⟨bb, oo, none⟩ : Addr).add j = ⟨bb, oo + j, none⟩ := by
        unfold Addr.add; split
        · rename_i h; subst h; rfl
        · rfl
      rw [hadd] at hc
      exact ⟨bb, oo, rfl, World.block_lt_of_cell? W _ hc, hc⟩
    · have := hwz x (List.mem_of_mem_take hx)
      simp [Lit.wf, IntKind.min, IntKind.max, IntKind.signed, IntKind.bits] at this
      omega

theorem arr_one {α : Type} {cs : Array α} (h : cs.size = 1) : ∃ v, cs = #[v] := by
  obtain ⟨l⟩ := cs
  obtain ⟨v, hv⟩ := List.length_eq_one_iff.1 (show l.length = 1 from h)
  exact ⟨v, by rw [hv]⟩

theorem cellsFenL : Try.prog.cellsOf 66 = 1 := by kernel_rfl
theorem cellsFenF : Try.prog.cellsOf 22 = 1 := by kernel_rfl

set_option maxRecDepth 100000 in
theorem open_fenc {H : Type} {enc : TypeId × Value → H} {W : World} {cs : List Value} {fuel : Nat} {x : DataW H × List MemPlace}
    (hf : DataW.trod enc Try.prog W 0 (fun _ => true) true fuel 66 cs = some x) :
    ∃ a len cap, cs = [.slice a len cap] ∧ ∃ l : List Int, l.length = len ∧ len ≤ maxLen ∧ FlatAt W (.slice a len cap) l.length (ints l) ∧ Fw.IsW l := by
  obtain ⟨ys, n, _, _, hl, hlen, hh⟩ := DataW.trod_struct Try.underlying66 hf
  rw [cellsFenL] at hl
  obtain ⟨v, rfl⟩ := List.length_eq_one_iff.1 hl
  obtain ⟨y, rfl⟩ := List.length_eq_one_iff.1 (show ys.length = 1 from hlen)
  · have g0 := hh 0 _ rfl
    simp [cellsFenF] at g0
    have g1 := g0
    rcases DataW.trod_slice Try.underlying22 g0 with ⟨e, _⟩ | ⟨a, len, cap, _, _, _, _, e, _⟩
    · simp at e
      subst e
      exact ⟨none, 0, 0, rfl, open_intw g1⟩
    · simp at e
      subst e
      exact ⟨some a, len, cap, rfl, open_intw g1⟩

set_option maxRecDepth 100000 in
theorem open_fen {H : Type} {enc : TypeId × Value → H} {W : World} {r : Reach} {base : Nat} {v : Value} {fuel : Nat} {x : DataW H × List MemPlace}
    (hw : Value.okWide Try.prog W r base 66 v) (hf : DataW.trod enc Try.prog W 0 (fun _ => true) true fuel 66 v.cells.toList = some x) :
    ∃ (u : Value) (l : List Int), v = .agg #[u] ∧ FlatAt W u l.length (ints l) ∧ l.length ≤ maxLen ∧ Fw.IsW l := by
  obtain ⟨cs, rfl, hsz⟩ := okWide_struct Try.underlying66 hw
  rw [cellsFenL] at hsz
  obtain ⟨v, rfl⟩ := arr_one hsz
  obtain ⟨a, len, cap, e, l, hl, hm, h, hi⟩ := open_fenc hf
  have e2 : v = .slice a len cap := by simpa [Value.cells] using e
  subst e2
  exact ⟨_, l, rfl, h, by omega, hi⟩

end Go.Proofs.Ytgfdpjmhdijdiaa
