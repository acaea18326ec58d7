/- Slices of slices, by their cells. Nothing of the program. -/
import Derived.Test.YthmcjmjkmmbepaaFlat
namespace Go.Proofs.Ythmcjmjkmmbepaa
open Go.RowKit

/-- Nothing but the blocks from lo to below hi moved. -/
structure Within (lo hi : Nat) (w w' : World) : Prop where
  os : w'.os = w.os
  tape : w'.tape = w.tape
  output : w'.output = w.output
  size : w.heap.size ≤ w'.heap.size
  block : ∀ k, k < w.heap.size → (k < lo ∨ hi ≤ k) → w'.heap[k]? = w.heap[k]?

theorem Within.refl (lo hi : Nat) (w : World) : Within lo hi w w := ⟨rfl, rfl, rfl, Nat.le_refl _, fun _ _ _ => rfl⟩
theorem Within.trans {lo hi : Nat} {a b c : World} (h : Within lo hi a b) (k : Within lo hi b c) : Within lo hi a c :=
  ⟨k.os.trans h.os, k.tape.trans h.tape, k.output.trans h.output, Nat.le_trans h.size k.size, fun i hi' hg => (k.block i (Nat.lt_of_lt_of_le hi' h.size) hg).trans (h.block i hi' hg)⟩
theorem Within.of_but {lo hi g : Nat} {a b : World} (h : But g a b) (h1 : lo ≤ g) (h2 : g < hi) : Within lo hi a b :=
  ⟨h.os, h.tape, h.output, h.size, fun k hk hg => h.block k hk (by omega)⟩
theorem Within.of_below {lo hi : Nat} {a b : World} (h : Below a.heap.size a b) : Within lo hi a b :=
  ⟨h.os, h.tape, h.output, h.size, fun k hk _ => h.block k hk⟩
theorem Within.below {lo hi B : Nat} {a b : World} (h : Within lo hi a b) (hB : B ≤ lo) (hs : B ≤ a.heap.size) : Below B a b :=
  ⟨h.os, h.tape, h.output, h.size, fun k hk => h.block k (by omega) (by omega)⟩
theorem CellRow.within {w w' : World} {g lo hi : Nat} {cs : List Value} (h : CellRow w g cs) (hb : Within lo hi w w') (hg : g < lo ∨ hi ≤ g) : CellRow w' g cs := h.same (hb.block g h.1 hg) hb.size

/-- v is a slice of slices: ls are the cells of each. -/
def RowsAt (w : World) (v : Value) (ls : List (List Value)) : Prop :=
  ∃ a c, v = .slice a ls.length c ∧ ls.length ≤ c ∧ ∀ (j : Nat) cs, ls[j]? = some cs → ∃ b o u, a = some ⟨b, o, none⟩ ∧ b < w.heap.size ∧ w.cell? ⟨b, o + j, none⟩ = some u ∧ FlatAt w u cs.length cs

theorem RowsAt.below {w w' : World} {v : Value} {ls : List (List Value)} (h : RowsAt w v ls) (hb : Below w.heap.size w w') : RowsAt w' v ls := by
  obtain ⟨a, c, rfl, hcap, h⟩ := h
  refine ⟨a, c, rfl, hcap, fun j cs hu => ?_⟩
  obtain ⟨b, o, u, ha, hbb, hc, hf⟩ := h j cs hu
  exact ⟨b, o, u, ha, Nat.lt_of_lt_of_le hbb hb.size, (hb.cell (p := ⟨b, o + j, none⟩) hbb).trans hc, hf.below hb⟩

/-- The cells of a row of slices. -/
def sliceRow (ls : List (List Value)) (G C : Nat → Nat) : List Value := (List.range ls.length).map fun i => .slice (some ⟨G i, 0, none⟩) (ls.getD i []).length (C i)

theorem sliceRow_at {ls : List (List Value)} {G C : Nat → Nat} {i : Nat} {cs : List Value} (h : ls[i]? = some cs) : (sliceRow ls G C)[i]? = some (.slice (some ⟨G i, 0, none⟩) cs.length (C i)) := by
  have hi := (List.getElem?_eq_some_iff.1 h).1
  unfold sliceRow
  rw [List.getElem?_map, List.getElem?_range hi]
  simp [List.getD, h]
theorem sliceRow_length (ls : List (List Value)) (G C : Nat → Nat) : (sliceRow ls G C).length = ls.length := by unfold sliceRow; simp

/-- A slice of slices of its own: the row in block g, the slices in blocks of their own, all from lo to below hi. -/
structure Nest (w : World) (g lo hi : Nat) (ls : List (List Value)) (G C : Nat → Nat) : Prop where
  row : CellRow w g (sliceRow ls G C)
  glo : lo ≤ g
  ghi : g < hi
  top : hi ≤ w.heap.size
  inner : ∀ i cs, ls[i]? = some cs → lo ≤ G i ∧ G i < hi ∧ G i ≠ g ∧ cs.length ≤ C i ∧ CellRow w (G i) cs
  apart : ∀ i j, i < j → j < ls.length → G i ≠ G j

theorem Nest.rows {w : World} {g lo hi : Nat} {ls : List (List Value)} {G C : Nat → Nat} (h : Nest w g lo hi ls G C) {c : Nat} (hc : ls.length ≤ c) : RowsAt w (.slice (some ⟨g, 0, none⟩) ls.length c) ls :=
  ⟨_, c, rfl, hc, fun j cs hcs => ⟨g, 0, _, rfl, h.row.1, by rw [Nat.zero_add]; exact (h.row.2 j _ (sliceRow_at hcs)).1, (h.inner j cs hcs).2.2.2.2.flat (h.inner j cs hcs).2.2.2.1⟩⟩

theorem Nest.below {w w' : World} {g lo hi B : Nat} {ls : List (List Value)} {G C : Nat → Nat} (h : Nest w g lo hi ls G C) (hb : Below B w w') (hB : hi ≤ B) : Nest w' g lo hi ls G C :=
  ⟨h.row.below hb (Nat.lt_of_lt_of_le h.ghi hB), h.glo, h.ghi, Nat.le_trans h.top hb.size, fun i cs hcs => by
    obtain ⟨h1, h2, h3, h4, h5⟩ := h.inner i cs hcs
    exact ⟨h1, h2, h3, h4, h5.below hb (by omega)⟩, h.apart⟩

theorem Nest.within {w w' : World} {g lo hi l2 h2 : Nat} {ls : List (List Value)} {G C : Nat → Nat} (h : Nest w g lo hi ls G C) (hb : Within l2 h2 w w') (hd : hi ≤ l2 ∨ h2 ≤ lo) : Nest w' g lo hi ls G C :=
  ⟨h.row.within hb (by have := h.glo; have := h.ghi; omega), h.glo, h.ghi, Nat.le_trans h.top hb.size, fun i cs hcs => by
    obtain ⟨h1, h2, h3, h4, h5⟩ := h.inner i cs hcs
    exact ⟨h1, h2, h3, h4, h5.within hb (by omega)⟩, h.apart⟩

theorem Nest.but {w w' : World} {g lo hi k : Nat} {ls : List (List Value)} {G C : Nat → Nat} (h : Nest w g lo hi ls G C) (hb : But k w w') (hd : hi ≤ k ∨ k < lo) : Nest w' g lo hi ls G C :=
  h.within (Within.of_but (lo := k) (hi := k + 1) hb (Nat.le_refl _) (Nat.lt_succ_self _)) (by omega)

/-- How much there is. -/
def total2 (ls : List (List Value)) : Nat := (ls.map List.length).sum
theorem total2_succ {ls : List (List Value)} {k : Nat} {cs : List Value} (h : ls[k]? = some cs) : total2 (ls.take (k + 1)) = total2 (ls.take k) + cs.length := by
  unfold total2; rw [List.take_add_one, h]; simp
theorem total2_take (ls : List (List Value)) (k : Nat) : total2 (ls.take k) ≤ total2 ls := by
  have h : total2 ls = total2 (ls.take k) + total2 (ls.drop k) := by
    unfold total2; rw [← List.sum_append, ← List.map_append, List.take_append_drop]
  omega
theorem total2_mem {ls : List (List Value)} {k : Nat} {cs : List Value} (h : ls[k]? = some cs) : cs.length ≤ total2 ls := by
  have := total2_succ h
  have := total2_take ls (k + 1)
  omega

/-- One inner row rewritten. -/
theorem Nest.put {w w' : World} {g lo hi i : Nat} {ls : List (List Value)} {G C : Nat → Nat} {cs ds : List Value} (h : Nest w g lo hi ls G C) (hcs : ls[i]? = some cs) (hb : But (G i) w w') (hd : CellRow w' (G i) ds) (hl : ds.length = cs.length) : Nest w' g lo hi (ls.set i ds) G C := by
  have hi' := (List.getElem?_eq_some_iff.1 hcs).1
  obtain ⟨q1, q2, q3, q4, q5⟩ := h.inner i cs hcs
  refine ⟨?_, h.glo, h.ghi, Nat.le_trans h.top hb.size, fun j es hes => ?_, fun a b hab hbl => h.apart a b hab (by simpa using hbl)⟩
  · have e : sliceRow (ls.set i ds) G C = sliceRow ls G C := by
      unfold sliceRow
      rw [List.length_set]
      apply List.map_congr_left
      intro a ha
      by_cases e : i = a
      · subst e
        have e1 : (ls.set i ds).getD i [] = ds := by simp [List.getD, hi']
        have e2 : ls.getD i [] = cs := by rw [List.getD, hcs]; rfl
        rw [e1, e2, hl]
      · have e1 : (ls.set i ds).getD a [] = ls.getD a [] := by simp [List.getD, e]
        rw [e1]
    rw [e]
    exact h.row.but hb (Ne.symm q3)
  · rw [List.getElem?_set] at hes
    by_cases e : i = j
    · subst e
      rw [if_pos rfl, if_pos hi'] at hes
      obtain rfl := Option.some.inj hes
      exact ⟨q1, q2, q3, by omega, hd⟩
    · rw [if_neg e] at hes
      obtain ⟨r1, r2, r3, r4, r5⟩ := h.inner j es hes
      have hj := (List.getElem?_eq_some_iff.1 hes).1
      have hne : G j ≠ G i := by
        rcases Nat.lt_or_gt_of_ne e with h1 | h1
        · exact Ne.symm (h.apart i j h1 hj)
        · exact h.apart j i h1 hi'
      exact ⟨r1, r2, r3, r4, r5.but hb hne⟩

def lens (ls : List (List Value)) (i : Nat) : Nat := (ls.getD i []).length
theorem lens_at {ls : List (List Value)} {i : Nat} {cs : List Value} (h : ls[i]? = some cs) : lens ls i = cs.length := by unfold lens; rw [List.getD, h]; rfl

/-- A slice of slices that is being made: the first k rows stand. -/
structure Part (w0 w : World) (g : Nat) (t : TypeId) (ls : List (List Value)) (G : Nat → Nat) (k : Nat) : Prop where
  row : RowIs w g t (fill (sliceRow ls G (lens ls)) (.slice none 0 0) k)
  inner : ∀ i cs, i < k → ls[i]? = some cs → g < G i ∧ CellRow w (G i) cs
  mono : ∀ i j, i < j → j < k → G i < G j
  bel : Below g w0 w

theorem sliceRow_take {ls : List (List Value)} {G G' C : Nat → Nat} {k : Nat} (h : ∀ i, i < k → G' i = G i) : (sliceRow ls G' C).take k = (sliceRow ls G C).take k := by
  apply List.ext_getElem?
  intro i
  rw [List.getElem?_take, List.getElem?_take]
  split
  · rename_i hi
    unfold sliceRow
    rw [List.getElem?_map, List.getElem?_map]
    by_cases hl : i < ls.length
    · rw [List.getElem?_range hl]; simp [h i hi]
    · rw [List.getElem?_eq_none (by simp; omega)]; rfl
  · rfl

theorem Part.start {w w' : World} {g : Nat} {t : TypeId} {ls : List (List Value)} (G : Nat → Nat) (h : RowIs w' g t (List.replicate ls.length (.slice none 0 0))) (hb : Below g w w') : Part w w' g t ls G 0 :=
  ⟨by rw [fill_zero, sliceRow_length]; exact h, fun i cs hi => by omega, fun i j _ hj => by omega, hb⟩

theorem Part.step {w0 w w1 : World} {g : Nat} {t : TypeId} {ls : List (List Value)} {G : Nat → Nat} {k gN : Nat} {cs : List Value} (h : Part w0 w g t ls G k) (hcs : ls[k]? = some cs) (hb : Below w.heap.size w w1) (hN : w.heap.size ≤ gN) (hr : CellRow w1 gN cs) :
    Part w0 (w1.setCell ⟨g, k, none⟩ (.slice (some ⟨gN, 0, none⟩) cs.length cs.length)) g t ls (fun i => if i = k then gN else G i) (k + 1) := by
  have hgl := h.row.lt
  have hset : Below g w1 (w1.setCell ⟨g, k, none⟩ (.slice (some ⟨gN, 0, none⟩) cs.length cs.length)) := (Below.refl g w1).setCell (p := ⟨g, k, none⟩) (Nat.le_refl _) _
  have hbut : But g w1 (w1.setCell ⟨g, k, none⟩ (.slice (some ⟨gN, 0, none⟩) cs.length cs.length)) := (But.refl g w1).setCell k _
  refine ⟨?_, fun i ds hi hds => ?_, fun i j hij hj => ?_, ?_⟩
  · have hat : (sliceRow ls (fun i => if i = k then gN else G i) (lens ls))[k]? = some (.slice (some ⟨gN, 0, none⟩) cs.length cs.length) := by
      rw [sliceRow_at hcs, lens_at hcs]; simp
    have hfill : fill (sliceRow ls G (lens ls)) (.slice none 0 0) k = fill (sliceRow ls (fun i => if i = k then gN else G i) (lens ls)) (.slice none 0 0) k := by
      unfold fill
      rw [sliceRow_length, sliceRow_length, sliceRow_take (G' := fun i => if i = k then gN else G i) (G := G) (fun i hi => by simp; omega)]
    rw [← fill_set hat, ← hfill]
    exact (h.row.below hb hgl).stored k _
  · by_cases e : i = k
    · subst e
      rw [hcs] at hds
      obtain rfl := Option.some.inj hds
      simp only [if_true]
      exact ⟨by omega, hr.but hbut (by omega)⟩
    · simp only [if_neg e]
      obtain ⟨h1, h2⟩ := h.inner i ds (by omega) hds
      exact ⟨h1, (h2.below hb h2.1).but hbut (by omega)⟩
  · by_cases e : j = k
    · subst e
      simp only [if_true, if_neg (show ¬ i = j by omega)]
      have hi : i < ls.length := by have := (List.getElem?_eq_some_iff.1 hcs).1; omega
      exact Nat.lt_of_lt_of_le (h.inner i _ (by omega) (List.getElem?_eq_getElem hi)).2.1 hN
    · simp only [if_neg e, if_neg (show ¬ i = k by omega)]
      exact h.mono i j hij (by omega)
  · exact (h.bel.trans (hb.mono (by omega))).trans hset

theorem Part.done {w0 w : World} {g : Nat} {t : TypeId} {ls : List (List Value)} {G : Nat → Nat} (h : Part w0 w g t ls G ls.length) : Nest w g g w.heap.size ls G (lens ls) := by
  have hrow := h.row
  rw [← sliceRow_length ls G (lens ls), fill_all] at hrow
  refine ⟨CellRow.of_row hrow, Nat.le_refl _, hrow.lt, Nat.le_refl _, fun i cs hcs => ?_, fun i j hij hj => Nat.ne_of_lt (h.mono i j hij hj)⟩
  obtain ⟨h1, h2⟩ := h.inner i cs (List.getElem?_eq_some_iff.1 hcs).1 hcs
  exact ⟨by omega, h2.1, by omega, by rw [lens_at hcs]; exact Nat.le_refl _, h2⟩

/-- How many elements stand in the first i rows. -/
def offs {α : Type} (M : List (List α)) (i : Nat) : Nat := ((M.take i).map List.length).sum
theorem offs_zero {α : Type} (M : List (List α)) : offs M 0 = 0 := rfl
theorem offs_succ {α : Type} {M : List (List α)} {k : Nat} {x : List α} (h : M[k]? = some x) : offs M (k + 1) = offs M k + x.length := by
  unfold offs; rw [List.take_add_one, h]; simp
theorem offs_le {α : Type} (M : List (List α)) (k : Nat) : offs M k ≤ offs M M.length := by
  unfold offs
  rw [List.take_length]
  have h : (M.map List.length).sum = ((M.take k).map List.length).sum + ((M.drop k).map List.length).sum := by
    rw [← List.sum_append, ← List.map_append, List.take_append_drop]
  omega

/-- The first k rows marked from m on. -/
def marked {α : Type} (f : Nat → Nat → List α) (M : List (List α)) (m k : Nat) : List (List α) := M.mapIdx fun i x => if i < k then f (m + offs M i) x.length else x
theorem marked_length {α : Type} (f : Nat → Nat → List α) (M : List (List α)) (m k : Nat) : (marked f M m k).length = M.length := by unfold marked; simp
theorem marked_zero {α : Type} (f : Nat → Nat → List α) (M : List (List α)) (m : Nat) : marked f M m 0 = M := by
  unfold marked
  apply List.ext_getElem?
  intro i
  rw [List.getElem?_mapIdx]
  simp
theorem marked_new {α : Type} {f : Nat → Nat → List α} {M : List (List α)} {m k : Nat} {x : List α} (h : M[k]? = some x) : (marked f M m k)[k]? = some x := by
  unfold marked; rw [List.getElem?_mapIdx, h]; simp
theorem marked_old {α : Type} {f : Nat → Nat → List α} {M : List (List α)} {m k i : Nat} {x : List α} (h : M[i]? = some x) (hi : i < k) : (marked f M m k)[i]? = some (f (m + offs M i) x.length) := by
  unfold marked; rw [List.getElem?_mapIdx, h]; simp [hi]
theorem marked_set {α : Type} {f : Nat → Nat → List α} {M : List (List α)} {m k : Nat} {x : List α} (h : M[k]? = some x) : (marked f M m k).set k (f (m + offs M k) x.length) = marked f M m (k + 1) := by
  have hk := (List.getElem?_eq_some_iff.1 h).1
  apply List.ext_getElem?
  intro i
  rw [List.getElem?_set, marked_length]
  by_cases e : k = i
  · subst e
    rw [if_pos rfl, if_pos hk, marked_old h (Nat.lt_succ_self _)]
  · rw [if_neg e]
    unfold marked
    rw [List.getElem?_mapIdx, List.getElem?_mapIdx]
    congr 1
    funext y
    by_cases h1 : i < k
    · rw [if_pos h1, if_pos (by omega)]
    · rw [if_neg h1, if_neg (by omega)]

end Go.Proofs.Ythmcjmjkmmbepaa
