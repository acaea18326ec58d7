/- A list of KeySpec that came in, opened. (flatgen.py) -/
import Derived.Test.YtcbeoihgaccjcaaDoorKeySpecs
import Derived.Deep.Slices
import Derived.ChangeArms
namespace Go.Proofs.YtcbeoihgaccjcaaDoor
open Go.RowKit Go.Deep

theorem cellsKeySpecL : Tryd.prog.cellsOf 58 = 4 := by kernel_rfl
theorem cellsKeySpecI : Tryd.prog.cellsOf 3 = 1 := by kernel_rfl
theorem cellsKeySpecB : Tryd.prog.cellsOf 4 = 1 := by kernel_rfl

set_option maxRecDepth 100000 in
theorem open_keys {H : Type} {enc : TypeId × Value → H} {W : World} {a : Option Addr} {len cap fuel : Nat} {x : DataW H × List MemPlace}
    (h : DataW.trod enc Tryd.prog W 0 (fun _ => true) true fuel 33 [.slice a len cap] = some x) : ∃ l : List (Int × Bool × Bool × Bool), l.length = len ∧ len ≤ maxLen ∧ FlatAt W (.slice a len cap) l.length (keys l) := by
  rcases open_slice Tryd.underlying33 h with ⟨hc, _⟩ | ⟨b, len', cap', m, fu, D, Pl, hc, _, hl, hm, hmm, _, hall⟩
  · simp at hc
    obtain ⟨rfl, rfl, rfl⟩ := hc
    exact ⟨[], rfl, by decide, none, 0, rfl, Nat.le_refl _, fun j u hu => by simp [keys] at hu⟩
  · simp at hc
    obtain ⟨rfl, rfl, rfl⟩ := hc
    have hlm : len ≤ m := by rw [hmm]; split <;> omega
    have each : ∀ i, i < len → ∃ p : Int × Bool × Bool × Bool, W.cell? (b.add (i * 4)) = some (Value.int .i64 p.1) ∧ W.cell? (b.add (i * 4 + 1)) = some (Value.bool p.2.1) ∧ W.cell? (b.add (i * 4 + 2)) = some (Value.bool p.2.2.1) ∧ W.cell? (b.add (i * 4 + 3)) = some (Value.bool p.2.2.2) := by
      intro i hi
      obtain ⟨cs', h1, h2⟩ := hall i (by omega)
      rw [cellsKeySpecL] at h1
      obtain ⟨_, hlen, hcell⟩ := World.cells?_some h1
      obtain ⟨xs, k, _, _, _, hxl, hf⟩ := DataW.trod_struct Tryd.underlying58 h2
      match xs, hxl, cs', hlen with
      | [y0, y1, y2, y3], _, [v0, v1, v2, v3], _ =>
        have g0 := hf 0 _ rfl
        simp [cellsKeySpecI] at g0
        have e0 := hcell 0 (by omega)
        rw [add_add] at e0
        obtain ⟨z0, q0, _, _⟩ := DataW.trod_int (k := .i64) Tryd.underlying3 g0
        simp at q0
        have g1 := hf 1 _ rfl
        simp [cellsKeySpecB] at g1
        have e1 := hcell 1 (by omega)
        rw [add_add] at e1
        obtain ⟨z1, q1, _⟩ := DataW.trod_bool Tryd.underlying4 g1
        simp at q1
        have g2 := hf 2 _ rfl
        simp [cellsKeySpecB] at g2
        have e2 := hcell 2 (by omega)
        rw [add_add] at e2
        obtain ⟨z2, q2, _⟩ := DataW.trod_bool Tryd.underlying4 g2
        simp at q2
        have g3 := hf 3 _ rfl
        simp [cellsKeySpecB] at g3
        have e3 := hcell 3 (by omega)
        rw [add_add] at e3
        obtain ⟨z3, q3, _⟩ := DataW.trod_bool Tryd.underlying4 g3
        simp at q3
        exact ⟨(z0, z1, z2, z3), by rw [← q0]; simpa using e0, by rw [← q1]; simpa using e1, by rw [← q2]; simpa using e2, by rw [← q3]; simpa using e3⟩
    obtain ⟨p, hp⟩ := choose_lt each
    refine ⟨(List.range len).map p, by simp, by omega, some b, cap, by simp, by simpa using hl, fun j u hu => ?_⟩
    have hj : j < len * 4 := by
      have := (List.getElem?_eq_some_iff.1 hu).1
      rw [keys_length] at this
      simpa using this
    have hpj := hp (j / 4) (by omega)
    have hat : ((List.range len).map p)[j / 4]? = some (p (j / 4)) := by
      rw [List.getElem?_map, List.getElem?_range (by omega)]; rfl
    have hq := keys_at hat
    have hcell : W.cell? (b.add j) = some u := by
      rcases (show j = j / 4 * 4 ∨ j = j / 4 * 4 + 1 ∨ j = j / 4 * 4 + 2 ∨ j = j / 4 * 4 + 3 by omega) with ej | ej | ej | ej
      · have q0 := hq.1
        have h0 := hpj.1
        rw [← ej] at q0 h0
        rw [hu] at q0
        rw [h0, q0]
      · have q0 := hq.2.1
        have h0 := hpj.2.1
        rw [← ej] at q0 h0
        rw [hu] at q0
        rw [h0, q0]
      · have q0 := hq.2.2.1
        have h0 := hpj.2.2.1
        rw [← ej] at q0 h0
        rw [hu] at q0
        rw [h0, q0]
      · have q0 := hq.2.2.2
        have h0 := hpj.2.2.2
        rw [← ej] at q0 h0
        rw [hu] at q0
        rw [h0, q0]
    obtain ⟨bb, oo, spot⟩ := b
    have h00 := (hp 0 (by omega)).1
    have hspot : spot = none := by simpa [Addr.add] using World.cell?_spot h00
    subst hspot
    have hadd : (⟨bb, oo, none⟩ : Addr).add j = ⟨bb, oo + j, none⟩ := by
      unfold Addr.add; split
      · rename_i h; subst h; rfl
      · rfl
    rw [hadd] at hcell
    exact ⟨bb, oo, rfl, World.block_lt_of_cell? W _ hcell, hcell⟩

end Go.Proofs.YtcbeoihgaccjcaaDoor
