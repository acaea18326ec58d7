/- Tables of bools that are held: their cells, one cell set. -/
import Derived.Test.YtipdfmedbcafpaaHeldB
import Derived.Test.YtipdfmedbcafpaaDrawI
namespace Go.Proofs.Ytipdfmedbcafpaa
open Go.RowKit
set_option linter.unusedVariables false

theorem Held.by_but {base g : Nat} {w w' : World} {v : Value} {L : List Int} (h : Held base w v L) (hb : But g w w') (hg : g < base) : Held base w' v L := h.same (fun k hk hB => hb.block k hk (by omega)) hb.size
namespace HB
theorem Held.by_but {base g : Nat} {w w' : World} {v : Value} {L : List Bool} (h : HB.Held base w v L) (hb : But g w w') (hg : g < base) : HB.Held base w' v L := HB.Held.same h (fun k hk hB => hb.block k hk (by omega)) hb.size
theorem HeldQ.by_but {base g : Nat} {w w' : World} {v : Value} {X : List BRow} (h : HB.HeldQ base w v X) (hb : But g w w') (hg : g < base) : HB.HeldQ base w' v X := HB.HeldQ.same h (fun k hk hB _ => hb.block k hk (by omega)) hb.size

/-- A held table, by its cells. -/
theorem HeldQ.rowsAt {base : Nat} {w : World} {v : Value} {X : List BRow} (h : HB.HeldQ base w v X) : RowsAt w v ((X.map BRow.L).map bools) := by
  obtain ⟨g, c, rfl, _⟩ := h.r.nn
  obtain ⟨h1, h2, h3⟩ := CellRow.of_own h.r.own
  refine ⟨some ⟨g, 0, none⟩, c, by simp, by simpa using h2, fun j cs hj => ?_⟩
  rw [List.getElem?_map, List.getElem?_map] at hj
  cases hx : X[j]? with
  | none => rw [hx] at hj; simp at hj
  | some x =>
    rw [hx] at hj
    simp at hj
    subst hj
    refine ⟨g, 0, HB.slv x, rfl, h3.1, ?_, ?_⟩
    · rw [Nat.zero_add]; exact (h3.2 j _ (by rw [List.getElem?_map, hx]; rfl)).1
    · rw [bools_length]; exact HB.Held.flat (h.q x (List.mem_of_getElem? hx))

/-- 'l[i][k] = b'. -/
theorem HeldQ.setIn {base : Nat} {w : World} {v : Value} {X : List BRow} {x : BRow} {i k : Nat} {y : Bool} (h : HB.HeldQ base w v X) (hx : X[i]? = some x) (hk : x.L[k]? = some y) (b : Bool) :
    w.cell? ⟨x.g, k, none⟩ = some (.bool y) ∧ w.frozen? ⟨x.g, k, none⟩ = false ∧ base ≤ x.g ∧ HB.HeldQ base (w.setCell ⟨x.g, k, none⟩ (.bool b)) v (X.set i ⟨x.g, x.c, x.L.set k b⟩) := by
  have hxm := List.mem_of_getElem? hx
  obtain ⟨hil, hxe⟩ := List.getElem?_eq_some_iff.1 hx
  obtain ⟨hkl, _⟩ := List.getElem?_eq_some_iff.1 hk
  obtain ⟨h1, h2, h3⟩ := h.r.rows x hxm
  obtain ⟨hc, hf⟩ := h3.2 k _ (bools_at hk)
  have hsz : w.heap.size ≤ (w.setCell ⟨x.g, k, none⟩ (.bool b)).heap.size := by simp
  have hoth : ∀ j, j ≠ x.g → (w.setCell ⟨x.g, k, none⟩ (.bool b)).heap[j]? = w.heap[j]? := fun j hj => Below.heap_setCell _ _ _ _ (fun e => hj e)
  have hrowsne : ∀ (j : Nat) y, j ≠ i → X[j]? = some y → y.g ≠ x.g := fun j y hj hy e2 => by
    obtain ⟨hjl, rfl⟩ := List.getElem?_eq_some_iff.1 hy
    subst hxe
    have hnd := List.pairwise_iff_getElem.1 h.r.apart
    rcases Nat.lt_or_gt_of_ne hj with h1 | h1
    · have := hnd j i (by simpa using hjl) (by simpa using hil) h1; simp at this; exact this e2
    · have := hnd i j (by simpa using hil) (by simpa using hjl) h1; simp at this; exact this e2.symm
  have hmap : (X.set i (⟨x.g, x.c, x.L.set k b⟩ : BRow)).map HB.slv = X.map HB.slv := by
    rw [List.map_set]
    apply List.ext_getElem?
    intro j
    rw [List.getElem?_set]
    by_cases e : i = j
    · subst e
      rw [if_pos rfl, if_pos (by simpa using hil), List.getElem?_map, hx]
      simp [HB.slv]
    · rw [if_neg e]
  have hmapg : (X.set i (⟨x.g, x.c, x.L.set k b⟩ : BRow)).map BRow.g = X.map BRow.g := by
    rw [List.map_set]
    apply List.ext_getElem?
    intro j
    rw [List.getElem?_set]
    by_cases e : i = j
    · subst e
      rw [if_pos rfl, if_pos (by simpa using hil), List.getElem?_map, hx]
      rfl
    · rw [if_neg e]
  have hq : ∀ z ∈ X.set i (⟨x.g, x.c, x.L.set k b⟩ : BRow), HB.Held base (w.setCell ⟨x.g, k, none⟩ (.bool b)) (HB.slv z) z.L ∧ (z.g = x.g ∨ ∃ y ∈ X, y.g = z.g) := fun z hz => by
    obtain ⟨j, hj⟩ := List.mem_iff_getElem?.1 hz
    rw [List.getElem?_set] at hj
    by_cases e : i = j
    · rw [if_pos e, if_pos hil] at hj
      simp at hj; subst hj
      refine ⟨?_, .inl rfl⟩
      have hQ := (h.q x hxm).1
      have := (hQ.stored k (.bool b)).1
      rw [bools_set] at this
      refine ⟨?_, x.g, x.c, by simp [HB.slv]⟩
      simpa [HB.slv] using this
    · rw [if_neg e] at hj
      have hzm := List.mem_of_getElem? hj
      refine ⟨HB.Held.own (h.q z hzm) fun g2 c2 ee hlt => ?_, .inr ⟨z, hzm, rfl⟩⟩
      simp [HB.slv] at ee
      obtain ⟨rfl, _⟩ := ee
      exact hoth _ (hrowsne j z (fun e2 => e e2.symm) hj)
  obtain ⟨gv, cv, hv, hother⟩ := h.r.nn
  refine ⟨hc, hf, h1, ⟨⟨?_, ⟨gv, cv, by simpa using hv, fun z hz => ?_⟩, fun z hz => (HB.Held.parts (hq z hz).1), by rw [hmapg]; exact h.r.apart⟩, fun z hz => (hq z hz).1⟩⟩
  · rw [hmap, List.length_set]
    refine ⟨h.r.own.1, ?_⟩
    rcases h.r.own.2 with hn | ⟨j, cap, cur, e, hj, hg, rest⟩
    · exact .inl hn
    · refine .inr ⟨j, cap, cur, e, hj, (hoth j ?_).trans hg, rest⟩
      rw [hv] at e
      simp at e
      obtain ⟨rfl, _⟩ := e
      exact fun e3 => hother x hxm e3.symm
  · rcases (hq z hz).2 with e | ⟨y, hy, e⟩
    · rw [e]; exact hother x hxm
    · rw [← e]; exact hother y hy
end HB

end Go.Proofs.Ytipdfmedbcafpaa
