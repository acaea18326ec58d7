/- A part of a row of numbers: its cells from o on; and what else moves. Nothing of the program. -/
import Derived.Test.YtebipiehkmhaiaaInts
import Derived.Test.YtebipiehkmhaiaaElem2
namespace Go.Proofs.Ytebipiehkmhaiaa
open Go.RowKit P El
set_option linter.unusedVariables false

/-- The cells of block g from o on are these, and none of them is frozen. -/
def Seg (w : World) (g o : Nat) (cs : List Value) : Prop :=
  g < w.heap.size ∧ ∀ (j : Nat) u, cs[j]? = some u → w.cell? ⟨g, o + j, none⟩ = some u ∧ w.frozen? ⟨g, o + j, none⟩ = false

theorem Seg.of_row {w : World} {g : Nat} {cs : List Value} (h : CellRow w g cs) : Seg w g 0 cs := ⟨h.1, fun j u hu => by rw [Nat.zero_add]; exact h.2 j u hu⟩
theorem Seg.row {w : World} {g : Nat} {cs : List Value} (h : Seg w g 0 cs) : CellRow w g cs := ⟨h.1, fun j u hu => by have := h.2 j u hu; rw [Nat.zero_add] at this; exact this⟩
theorem Seg.flat {w : World} {g o : Nat} {cs : List Value} (h : Seg w g o cs) {n c : Nat} (hc : n ≤ c) : FlatAt w (.slice (some ⟨g, o, none⟩) n c) n cs :=
  ⟨_, c, rfl, hc, fun j u hu => ⟨g, o, rfl, h.1, (h.2 j u hu).1⟩⟩
theorem Seg.same {w w' : World} {g o : Nat} {cs : List Value} (h : Seg w g o cs) (hb : w'.heap[g]? = w.heap[g]?) (hs : w.heap.size ≤ w'.heap.size) : Seg w' g o cs := by
  refine ⟨Nat.lt_of_lt_of_le h.1 hs, fun j u hu => ⟨?_, ?_⟩⟩
  · rw [World.cell?_of_block (w := w) hb]; exact (h.2 j u hu).1
  · have := (h.2 j u hu).2
    unfold World.frozen? at this ⊢
    rw [show w'.heap[(⟨g, o + j, none⟩ : Addr).block]? = w.heap[(⟨g, o + j, none⟩ : Addr).block]? from hb]
    exact this
theorem Seg.below {w w' : World} {g o B : Nat} {cs : List Value} (h : Seg w g o cs) (hb : Below B w w') (hg : g < B) : Seg w' g o cs := h.same (hb.block g hg) hb.size
theorem Seg.but {w w' : World} {g o k : Nat} {cs : List Value} (h : Seg w g o cs) (hb : But k w w') (hg : g ≠ k) : Seg w' g o cs := h.same (hb.block g h.1 hg) hb.size
theorem Seg.drewN {w : World} {g o : Nat} {cs : List Value} (h : Seg w g o cs) (n : Nat) : Seg (w.drewN n) g o cs := h.same rfl (Nat.le_refl _)
theorem Seg.set {w : World} {g o : Nat} {cs : List Value} (h : Seg w g o cs) (k : Nat) (u : Value) (hk : k < cs.length) : Seg (w.setCell ⟨g, o + k, none⟩ u) g o (cs.set k u) := by
  refine ⟨Nat.lt_of_lt_of_le h.1 ((Below.refl g w).setCell (p := ⟨g, o + k, none⟩) (Nat.le_refl _) _).size, fun j v hv => ?_⟩
  rw [List.getElem?_set] at hv
  by_cases e : k = j
  · subst e
    rw [if_pos rfl, if_pos hk] at hv
    obtain rfl := Option.some.inj hv
    obtain ⟨h1, h2⟩ := h.2 k _ (List.getElem?_eq_getElem hk)
    exact ⟨World.cell?_setCell_same _ _ _ h1, by rw [World.frozen?_setCell]; exact h2⟩
  · rw [if_neg e] at hv
    obtain ⟨h1, h2⟩ := h.2 j _ hv
    exact ⟨by rw [World.cell?_setCell_other _ _ _ _ (fun h => e (by injection h; omega))]; exact h1, by rw [World.frozen?_setCell]; exact h2⟩
theorem Seg.put {w : World} {g o : Nat} {L : List Int} (h : Seg w g o (ints L)) (k : Nat) (x : Int) (hk : k < L.length) : Seg (w.setCell ⟨g, o + k, none⟩ (.int .i64 x)) g o (ints (L.set k x)) := by
  rw [← ints_set]; exact h.set k _ (by rw [ints_length]; exact hk)
theorem Seg.at {w : World} {g o : Nat} {L : List Int} (h : Seg w g o (ints L)) {k : Nat} (hk : k < L.length) : w.cell? ⟨g, o + k, none⟩ = some (.int .i64 (L.getD k 0)) ∧ w.frozen? ⟨g, o + k, none⟩ = false := h.2 k _ (ints_at (at_getD hk))
theorem Seg.fst {w : World} {g o : Nat} {A B : List Value} (h : Seg w g o (A ++ B)) : Seg w g o A := ⟨h.1, fun j u hu => h.2 j u (by
  rw [List.getElem?_append_left (List.getElem?_eq_some_iff.1 hu).1]; exact hu)⟩
theorem Seg.snd {w : World} {g o : Nat} {A B : List Value} (h : Seg w g o (A ++ B)) : Seg w g (o + A.length) B := ⟨h.1, fun j u hu => by
  have := h.2 (A.length + j) u (by rw [List.getElem?_append_right (by omega), Nat.add_sub_cancel_left]; exact hu)
  rw [← Nat.add_assoc] at this; exact this⟩
theorem Seg.join {w : World} {g o p : Nat} {A B : List Value} (h : Seg w g o A) (h2 : Seg w g p B) (hp : p = o + A.length) : Seg w g o (A ++ B) := ⟨h.1, fun j u hu => by
  subst hp
  by_cases hj : j < A.length
  · rw [List.getElem?_append_left hj] at hu; exact h.2 j u hu
  · rw [List.getElem?_append_right (by omega)] at hu
    have := h2.2 (j - A.length) u hu
    rw [show o + A.length + (j - A.length) = o + j by omega] at this; exact this⟩
theorem Seg.nil {w : World} {g o : Nat} (h : g < w.heap.size) : Seg w g o [] := ⟨h, fun j u hu => by simp at hu⟩

/-- The cells of block g from o on are these: to be read. -/
def FlatRd (w : World) (g o : Nat) (cs : List Value) : Prop := ∀ (j : Nat) u, cs[j]? = some u → g < w.heap.size ∧ w.cell? ⟨g, o + j, none⟩ = some u
theorem FlatRd.of_flat {w : World} {g o n m c : Nat} {cs : List Value} (h : FlatAt w (.slice (some ⟨g, o, none⟩) n c) m cs) : FlatRd w g o cs := fun j u hu => by
  obtain ⟨a', c', he, _, hh⟩ := h
  simp at he
  obtain ⟨⟨rfl, _⟩, _⟩ := he
  obtain ⟨b', o', e, hbb, hcell⟩ := hh j u hu
  simp at e
  obtain ⟨rfl, rfl⟩ := e
  exact ⟨hbb, hcell⟩
theorem Seg.rd {w : World} {g o : Nat} {cs : List Value} (h : Seg w g o cs) : FlatRd w g o cs := fun j u hu => ⟨h.1, (h.2 j u hu).1⟩
theorem FlatRd.at {w : World} {g o : Nat} {L : List Int} (h : FlatRd w g o (ints L)) {k : Nat} (hk : k < L.length) : w.cell? ⟨g, o + k, none⟩ = some (.int .i64 (L.getD k 0)) := (h k _ (ints_at (at_getD hk))).2
theorem FlatRd.below {w w' : World} {g o : Nat} {cs : List Value} (h : FlatRd w g o cs) (hb : Below w.heap.size w w') : FlatRd w' g o cs := fun j u hu => by
  obtain ⟨h1, h2⟩ := h j u hu
  exact ⟨Nat.lt_of_lt_of_le h1 hb.size, (hb.cell (p := ⟨g, o + j, none⟩) h1).trans h2⟩
theorem FlatRd.drewN {w : World} {g o : Nat} {cs : List Value} (h : FlatRd w g o cs) (t : Nat) : FlatRd (w.drewN t) g o cs := h

/-- Nothing but n cells of block g from o on moved. -/
structure ButS (g o n : Nat) (w w' : World) : Prop where
  but : But g w w'
  fz : ∀ j, w'.frozen? ⟨g, j, none⟩ = w.frozen? ⟨g, j, none⟩
  cell : ∀ j, j < o ∨ o + n ≤ j → w'.cell? ⟨g, j, none⟩ = w.cell? ⟨g, j, none⟩
theorem ButS.refl (g o n : Nat) (w : World) : ButS g o n w w := ⟨But.refl g w, fun _ => rfl, fun _ _ => rfl⟩
theorem ButS.trans {g o n : Nat} {a b c : World} (h : ButS g o n a b) (k : ButS g o n b c) : ButS g o n a c :=
  ⟨h.but.trans k.but, fun j => (k.fz j).trans (h.fz j), fun j hj => (k.cell j hj).trans (h.cell j hj)⟩
theorem ButS.wide {g o n o' n' : Nat} {a b : World} (h : ButS g o n a b) (h1 : o' ≤ o) (h2 : o + n ≤ o' + n') : ButS g o' n' a b := ⟨h.but, h.fz, fun j hj => h.cell j (by omega)⟩
theorem ButS.setCell {g o n : Nat} {a w : World} (h : ButS g o n a w) (k : Nat) (u : Value) (h1 : k < n) : ButS g o n a (w.setCell ⟨g, o + k, none⟩ u) :=
  ⟨h.but.setCell _ _, fun j => by rw [World.frozen?_setCell]; exact h.fz j, fun j hj => by
    rw [World.cell?_setCell_other _ _ _ _ (fun e => by injection e; omega)]; exact h.cell j hj⟩
theorem ButS.drewN {g o n : Nat} {a w : World} (h : ButS g o n a w) (t : Nat) : ButS g o n a (w.drewN t) := ⟨h.but.drewN t, h.fz, h.cell⟩
theorem ButS.ofBelow {g o n : Nat} {a b : World} (h : Below a.heap.size a b) (hg : g < a.heap.size) : ButS g o n a b :=
  ⟨But.ofBelow h (Nat.le_refl _), fun j => by
    unfold World.frozen?
    rw [show b.heap[(⟨g, j, none⟩ : Addr).block]? = a.heap[(⟨g, j, none⟩ : Addr).block]? from h.block g hg], fun j _ => by
    rw [World.cell?_of_block (w := a) (h.block g hg)]⟩
theorem ButS.below {g o n B : Nat} {a b : World} (h : ButS g o n a b) (hB : B ≤ g) (hs : B ≤ a.heap.size) : Below B a b := h.but.below hB hs
theorem Seg.keep {w w' : World} {g o p n : Nat} {cs : List Value} (h : Seg w g o cs) (hb : ButS g p n w w') (hd : o + cs.length ≤ p ∨ p + n ≤ o) : Seg w' g o cs :=
  ⟨Nat.lt_of_lt_of_le h.1 hb.but.size, fun j u hu => by
    have hj := (List.getElem?_eq_some_iff.1 hu).1
    rw [hb.cell _ (by omega), hb.fz]
    exact h.2 j u hu⟩
theorem int_eq {a b : Int} (h : a = b) : Value.int .i64 a = Value.int .i64 b := by rw [h]
/-- A list in its part, and nothing else moved. -/
def SegP (g o n : Nat) (M : List Int) (w w' : World) : Prop := Seg w' g o (ints M) ∧ ButS g o n w w'

end Go.Proofs.Ytebipiehkmhaiaa
