/- Lists of rows of whole numbers whose rows grow too. -/
import Derived.Test.YtjlldjekjnlcaaaHeldZ
import Derived.Test.YtjlldjekjnlcaaaAppAt
namespace Go.Proofs.Ytjlldjekjnlcaaa
open Go.RowKit P

/-- Rows that can be appended to. -/
structure HeldY (base : Nat) (w : World) (v : Value) (X : List ZRow) : Prop where
  r : HeldZ base w v X
  q : ∀ x ∈ X, Held base w (slz x) x.L

theorem HeldY.start (w : World) (base : Nat) (hb : base ≤ w.heap.size) : HeldY base (w.alloc (.cells #[] 24)) (.slice (some ⟨w.heap.size, 0, none⟩) 0 0) [] := ⟨HeldZ.start w base hb, by simp⟩
theorem HeldY.same {base : Nat} {w w' : World} {v : Value} {X : List ZRow} (h : HeldY base w v X) (hb : ∀ k, k < w.heap.size → base ≤ k → BlkZ v X k → w'.heap[k]? = w.heap[k]?) (hs : w.heap.size ≤ w'.heap.size) : HeldY base w' v X := by
  refine ⟨h.r.same hb hs, fun x hx => (h.q x hx).own fun g c e hlt => ?_⟩
  have hB : BlkZ v X g := .inr ⟨x, hx, by simp [slz] at e; exact e.1.symm⟩
  exact hb g hlt (h.r.lt hB).1 hB
theorem HeldY.below {base : Nat} {w w' : World} {v : Value} {X : List ZRow} (h : HeldY base w v X) (hb : Below w.heap.size w w') : HeldY base w' v X := h.same (fun k hk _ _ => hb.block k hk) hb.size

/-- A row's own facts, said of its parts. -/
theorem Held.partsZ {base : Nat} {w : World} {x : ZRow} (h : Held base w (slz x) x.L) : base ≤ x.g ∧ x.L.length ≤ x.c ∧ CellRow w x.g (ints x.L) := by
  obtain ⟨g, c, e, h1, h2, h3⟩ := h.row
  simp [slz] at e
  obtain ⟨rfl, _, rfl⟩ := e
  exact ⟨h1, h2, h3⟩

/-- 'append(l, row)' of one row. -/
theorem appendRowY (base : Nat) (v : Value) (X : List ZRow) (x : ZRow) (w : World) (h : HeldY base w v X) (hb : base ≤ w.heap.size) (hx : Held base w (slz x) x.L) (hx4 : ¬ BlkZ v X x.g) (hn : X.length ≤ 1048576) :
    ∃ v' w', (heldAppend #[36, 36] 36 #[v, .slice (some ⟨w.heap.size, 0, none⟩) 1 1]).run Try.prog (w.alloc (.cells #[slz x] 24)) = .ok v' w' ∧
      HeldY base w' v' (X ++ [x]) ∧ Below base w w' ∧ (∀ k, k < w.heap.size → v.ownBlock ≠ some k → w'.heap[k]? = w.heap[k]?) ∧ (∀ k, v'.ownBlock = some k → v.ownBlock = some k ∨ w.heap.size ≤ k) := by
  obtain ⟨h1, h2, h3⟩ := hx.partsZ
  obtain ⟨v', w', r, hR, hB, hk, hbl⟩ := appendZ base v X x w h.r hb h1 h2 h3 hx4 hn
  refine ⟨v', w', r, ⟨hR, fun y hy => ?_⟩, hB, hk, hbl⟩
  rcases h.r.nn with ⟨rfl, rfl⟩ | ⟨g, c, rfl, hother⟩
  · simp at hy; subst hy
    exact hx.own fun g2 c2 e hlt => hk g2 hlt (by simp [Value.ownBlock])
  rcases List.mem_append.1 hy with hy | hy
  · refine (h.q y hy).own fun g2 c2 e hlt => hk g2 hlt ?_
    simp [slz] at e
    have := hother y hy
    simp [Value.ownBlock]
    omega
  · simp at hy; subst hy
    refine hx.own fun g2 c2 e hlt => hk g2 hlt ?_
    simp [slz] at e
    obtain ⟨rfl, _⟩ := e
    exact fun e2 => hx4 (.inl e2)

/-- 'l[k] = append(l[k], n)'. -/
theorem appendInZ (base g c k : Nat) (X : List ZRow) (x : ZRow) (e : Int) (w : World) (h : HeldY base w (.slice (some ⟨g, 0, none⟩) X.length c) X) (hx : X[k]? = some x) (hb : base ≤ w.heap.size) (hn : x.L.length ≤ 1048576) :
    ∃ g' c' w1, (heldAppend #[24, 24] 24 #[.slice (some ⟨x.g, 0, none⟩) x.L.length x.c, .slice (some ⟨w.heap.size, 0, none⟩) 1 1]).run Try.prog (w.alloc (.cells #[.int .i64 e] 3)) = .ok (.slice (some ⟨g', 0, none⟩) (x.L.length + 1) c') w1 ∧
      HeldY base (w1.setCell ⟨g, k, none⟩ (.slice (some ⟨g', 0, none⟩) (x.L.length + 1) c')) (.slice (some ⟨g, 0, none⟩) X.length c) (X.set k ⟨g', c', x.L ++ [e]⟩) ∧ Below base w (w1.setCell ⟨g, k, none⟩ (.slice (some ⟨g', 0, none⟩) (x.L.length + 1) c')) ∧
      w1.cell? ⟨g, k, none⟩ = some (.slice (some ⟨x.g, 0, none⟩) x.L.length x.c) ∧ w1.frozen? ⟨g, k, none⟩ = false ∧
      (∀ j, j < w.heap.size → ¬ BlkZ (.slice (some ⟨g, 0, none⟩) X.length c) X j → (w1.setCell ⟨g, k, none⟩ (.slice (some ⟨g', 0, none⟩) (x.L.length + 1) c')).heap[j]? = w.heap[j]? ∧ ¬ BlkZ (.slice (some ⟨g, 0, none⟩) X.length c) (X.set k ⟨g', c', x.L ++ [e]⟩) j) := by
  have hkl := (List.getElem?_eq_some_iff.1 hx).1
  have hxm := List.mem_of_getElem? hx
  have hQ := h.q x hxm
  rcases h.r.nn with ⟨e0, _⟩ | ⟨g0, c0, e0, hother⟩
  · simp at e0
  simp at e0
  obtain ⟨rfl, rfl⟩ := e0
  obtain ⟨v', w1, r, hH, hB, hk, hbl⟩ := appendOneAt base (slz x) x.L e w hQ hb hn
  obtain ⟨g', c', rfl, hg1, hg2, hg3⟩ := hH.row
  have hlen : (x.L ++ [e]).length = x.L.length + 1 := by simp
  rw [hlen] at hH hg2 r hbl
  have hgsz : g < w.heap.size := (h.r.lt (.inl (by simp [Value.ownBlock]) : BlkZ (.slice (some ⟨g, 0, none⟩) X.length c) X g)).2
  have hgb : base ≤ g := (h.r.lt (.inl (by simp [Value.ownBlock]) : BlkZ (.slice (some ⟨g, 0, none⟩) X.length c) X g)).1
  have hgx := hother x hxm
  have hg' : g' = x.g ∨ w.heap.size ≤ g' := by
    rcases hbl g' (by simp [Value.ownBlock]) with h1 | h1
    · simp [slz, Value.ownBlock] at h1; exact .inl h1.symm
    · exact .inr h1
  have hgg' : g' ≠ g := by rcases hg' with h1 | h1 <;> omega
  have hblock : w1.heap[g]? = w.heap[g]? := hk g hgsz (by simp [slz, Value.ownBlock]; exact hgx)
  have hown1 : w1.ownsRow base 24 1 (.slice (some ⟨g, 0, none⟩) X.length c) X.length (X.map slz) := by
    refine ⟨h.r.own.1, ?_⟩
    rcases h.r.own.2 with hz | ⟨j, cap, cur, ee, h1, h2, rest⟩
    · exact .inl hz
    · simp at ee
      obtain ⟨rfl, rfl⟩ := ee
      exact .inr ⟨g, c, cur, rfl, h1, hblock.trans h2, rest⟩
  obtain ⟨hst, hgr⟩ := hown1.stored k (.slice (some ⟨g', 0, none⟩) (x.L.length + 1) c')
  have hoth : ∀ j, j ≠ g → (w1.setCell ⟨g, k, none⟩ (.slice (some ⟨g', 0, none⟩) (x.L.length + 1) c')).heap[j]? = w1.heap[j]? := fun j hj => Below.heap_setCell _ _ _ _ (fun e => hj e)
  have hsz : w1.heap.size ≤ (w1.setCell ⟨g, k, none⟩ (.slice (some ⟨g', 0, none⟩) (x.L.length + 1) c')).heap.size := by simp
  have hnew : Held base (w1.setCell ⟨g, k, none⟩ (.slice (some ⟨g', 0, none⟩) (x.L.length + 1) c')) (.slice (some ⟨g', 0, none⟩) (x.L.length + 1) c') (x.L ++ [e]) := by
    exact hH.own fun g2 c2 ee _ => hoth g2 (by simp at ee; omega)
  have hrowsne : ∀ (j : Nat) y, j ≠ k → X[j]? = some y → y.g ≠ x.g := fun j y hj hy e2 => by
    obtain ⟨hjl, rfl⟩ := List.getElem?_eq_some_iff.1 hy
    obtain ⟨_, rfl⟩ := List.getElem?_eq_some_iff.1 hx
    have hnd := List.pairwise_iff_getElem.1 h.r.apart
    rcases Nat.lt_or_gt_of_ne hj with h1 | h1
    · have := hnd j k (by simpa using hjl) (by simpa using hkl) h1; simp at this; exact this e2
    · have := hnd k j (by simpa using hkl) (by simpa using hjl) h1; simp at this; exact this e2.symm
  have hold : ∀ (j : Nat) y, j ≠ k → X[j]? = some y → Held base (w1.setCell ⟨g, k, none⟩ (.slice (some ⟨g', 0, none⟩) (x.L.length + 1) c')) (slz y) y.L := fun j y hj hy => by
    have hym := List.mem_of_getElem? hy
    refine (h.q y hym).own fun g2 c2 ee hlt => ?_
    simp [slz] at ee
    obtain ⟨rfl, _⟩ := ee
    exact (hoth _ (hother y hym)).trans (hk _ hlt (by simp [slz, Value.ownBlock]; exact fun e2 => hrowsne j y hj hy e2.symm))
  have hall : ∀ y ∈ X.set k ⟨g', c', x.L ++ [e]⟩, Held base (w1.setCell ⟨g, k, none⟩ (.slice (some ⟨g', 0, none⟩) (x.L.length + 1) c')) (slz y) y.L ∧ y.g ≠ g := fun y hy => by
    obtain ⟨j, hj⟩ := List.mem_iff_getElem?.1 hy
    rw [List.getElem?_set] at hj
    by_cases hjk : k = j
    · rw [if_pos hjk, if_pos hkl] at hj
      simp at hj; subst hj
      refine ⟨?_, hgg'⟩
      have e2 : slz ⟨g', c', x.L ++ [e]⟩ = .slice (some ⟨g', 0, none⟩) (x.L.length + 1) c' := by simp [slz]
      rw [e2]; exact hnew
    · rw [if_neg hjk] at hj
      exact ⟨hold j y (fun e => hjk e.symm) hj, hother y (List.mem_of_getElem? hj)⟩
  refine ⟨g', c', w1, by simpa [slz] using r, ⟨⟨?_, .inr ⟨g, c, by simp, fun y hy => (hall y hy).2⟩, fun y hy => (hall y hy).1.partsZ, ?_⟩, fun y hy => (hall y hy).1⟩, hB.setCell (p := ⟨g, k, none⟩) hgb _, ?_, hown1.frozenAt k, fun j hj hB' => ?_⟩
  · have e2 : (X.map slz).set k (.slice (some ⟨g', 0, none⟩) (x.L.length + 1) c') = (X.set k ⟨g', c', x.L ++ [e]⟩).map slz := by
      rw [List.map_set]; simp [slz]
    rw [← e2, List.length_set]; exact hst
  · refine List.pairwise_iff_getElem.2 fun i j hi hj hij => ?_
    simp only [List.length_map, List.length_set] at hi hj
    simp only [List.getElem_map, List.getElem_set]
    have hnd := List.pairwise_iff_getElem.1 h.r.apart i j (by simpa using hi) (by simpa using hj) hij
    simp only [List.getElem_map] at hnd
    have hgi := hrowsne i X[i]
    have hgj := hrowsne j X[j]
    have hsi := (h.r.rows X[i] (List.getElem_mem hi)).2.2.1
    have hsj := (h.r.rows X[j] (List.getElem_mem hj)).2.2.1
    by_cases h1 : k = i
    · by_cases h2 : k = j
      · omega
      · rw [if_pos h1, if_neg h2]
        have := hgj (fun e => h2 e.symm) (List.getElem?_eq_getElem hj)
        show g' ≠ _
        rcases hg' with h3 | h3
        · exact fun e4 => this (e4.symm.trans h3)
        · omega
    · by_cases h2 : k = j
      · rw [if_neg h1, if_pos h2]
        have := hgi (fun e => h1 e.symm) (List.getElem?_eq_getElem hi)
        show _ ≠ g'
        rcases hg' with h3 | h3
        · exact fun e4 => this (e4.trans h3)
        · omega
      · rw [if_neg h1, if_neg h2]; exact hnd
  · have := hown1.cellAt k (by omega)
    rw [this, List.getElem?_map, hx]; rfl
  · have hj1 : j ≠ g := fun e => hB' (.inl (by simp [Value.ownBlock, e]))
    refine ⟨(hoth j hj1).trans (hk j hj (by simp [slz, Value.ownBlock]; exact fun e => hB' (.inr ⟨x, hxm, e.symm⟩))), ?_⟩
    rintro (h1 | ⟨y, hy, rfl⟩)
    · exact hB' (.inl h1)
    · rcases List.mem_or_eq_of_mem_set hy with h1 | rfl
      · exact hB' (.inr ⟨y, h1, rfl⟩)
      · rcases hg' with h1 | h1
        · exact hB' (.inr ⟨x, hxm, h1⟩)
        · have : g' < w.heap.size := hj
          omega

end Go.Proofs.Ytjlldjekjnlcaaa
