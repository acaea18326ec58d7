/- A list of records that came in, opened. -/
import Derived.Test.YtebipiehkmhaiaaRecs
import Derived.Deep.SlicePairs
import Derived.ChangeArms
namespace Go.Proofs.Ytebipiehkmhaiaa
open Go.RowKit Go.Deep

theorem cellsRecL : Try.prog.cellsOf 112 = 2 := by kernel_rfl
theorem cellsIntL : Try.prog.cellsOf 3 = 1 := by kernel_rfl

theorem open_recs {H : Type} {enc : TypeId × Value → H} {W : World} {a : Option Addr} {len cap fuel : Nat} {x : DataW H × List MemPlace}
    (h : DataW.trod enc Try.prog W 0 (fun _ => true) true fuel 56 [.slice a len cap] = some x) : ∃ l : List (Int × Int), l.length = len ∧ len ≤ maxLen ∧ FlatAt W (.slice a len cap) l.length (recs l) := by
  rcases open_slice_pairs Try.underlying56 Try.underlying112 cellsRecL rfl rfl cellsIntL cellsIntL h with ⟨hc, _⟩ | ⟨b, len', cap', m, k, V0, V1, D0, D1, P0, P1, hc, _, hl, hm, hmm, _, hall⟩
  · simp at hc
    obtain ⟨rfl, rfl, rfl⟩ := hc
    exact ⟨[], rfl, by decide, none, 0, rfl, Nat.le_refl _, fun j u hu => by simp [recs] at hu⟩
  · simp at hc
    obtain ⟨rfl, rfl, rfl⟩ := hc
    have hlm : len ≤ m := by rw [hmm]; split <;> omega
    have each : ∀ i, i < len → ∃ p : Int × Int, W.cell? (b.add (i * 2)) = some (.int .i64 p.1) ∧ W.cell? (b.add (i * 2 + 1)) = some (.int .i64 p.2) := by
      intro i hi
      obtain ⟨h0, h1, t0, t1⟩ := hall i (by omega)
      obtain ⟨n0, e0, _, _⟩ := DataW.trod_int (k := .i64) Try.underlying3 t0
      obtain ⟨n1, e1, _, _⟩ := DataW.trod_int (k := .i64) Try.underlying3 t1
      simp at e0 e1
      exact ⟨(n0, n1), by rw [h0, e0], by rw [h1, e1]⟩
    obtain ⟨p, hp⟩ := choose_lt each
    refine ⟨(List.range len).map p, by simp, by omega, some b, cap, by simp, by simpa using hl, fun j u hu => ?_⟩
    have hj : j < len * 2 := by
      have := (List.getElem?_eq_some_iff.1 hu).1
      rw [recs_length] at this
      simpa using this
    obtain ⟨h0, h1⟩ := hp (j / 2) (by omega)
    have hat : ((List.range len).map p)[j / 2]? = some (p (j / 2)) := by
      rw [List.getElem?_map, List.getElem?_range (by omega)]; rfl
    obtain ⟨q0, q1⟩ := recs_at hat
    have hcell : W.cell? (b.add j) = some u := by
      rcases Nat.mod_two_eq_zero_or_one j with e | e
      · have ej : j / 2 * 2 = j := by omega
        rw [ej] at q0 h0
        rw [hu] at q0
        rw [h0, q0]
      · have ej : j / 2 * 2 + 1 = j := by omega
        rw [ej] at q1 h1
        rw [hu] at q1
        rw [h1, q1]
    obtain ⟨bb, oo, spot⟩ := b
    have h00 := (hp 0 (by omega)).1
    have hspot : spot = none := by simpa [Addr.add] using World.cell?_spot h00
    subst hspot
    have hadd : (⟨bb, oo, none⟩ : Addr).add j = ⟨bb, oo + j, none⟩ := by
      unfold Addr.add; split
      · rename_i h; subst h; rfl
      · rfl
    rw [hadd] at hcell
    exact ⟨bb, oo, rfl, World.block_lt_of_cell? W _ hcell, hcell⟩

end Go.Proofs.Ytebipiehkmhaiaa
