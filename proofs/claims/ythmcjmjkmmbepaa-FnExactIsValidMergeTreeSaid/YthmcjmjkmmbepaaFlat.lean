/- Slices whose elements are flat (numbers, or structs of numbers), by their cells. Nothing of the program but its types. -/
import Derived.Test.YthmcjmjkmmbepaaRows
import Derived.WalkKit
import Derived.Below
import Derived.Lib.Hide
import Derived.BigQuiet
import Derived.Deep.QuietTactic
import Derived.Laws.MakeOwn
import Derived.LoopTactic
namespace Go.Proofs.Ythmcjmjkmmbepaa
open Go.RowKit

/-- v is a slice of n elements whose cells are cs. -/
def FlatAt (w : World) (v : Value) (n : Nat) (cs : List Value) : Prop :=
  ∃ a c, v = .slice a n c ∧ n ≤ c ∧ ∀ (j : Nat) u, cs[j]? = some u → ∃ b o, a = some ⟨b, o, none⟩ ∧ b < w.heap.size ∧ w.cell? ⟨b, o + j, none⟩ = some u

theorem FlatAt.below {w w' : World} {v : Value} {n : Nat} {cs : List Value} (h : FlatAt w v n cs) (hb : Below w.heap.size w w') : FlatAt w' v n cs := by
  obtain ⟨a, c, rfl, hcap, h⟩ := h
  refine ⟨a, c, rfl, hcap, fun j u hu => ?_⟩
  obtain ⟨b, o, ha, hbb, hc⟩ := h j u hu
  exact ⟨b, o, ha, Nat.lt_of_lt_of_le hbb hb.size, (hb.cell (p := ⟨b, o + j, none⟩) hbb).trans hc⟩

/-- Block g is just these cells of type t. -/
def RowIs (w : World) (g : Nat) (t : TypeId) (l : List Value) : Prop := w.heap[g]? = some (.cells l.toArray t (0, 0))

theorem RowIs.cell {w : World} {g : Nat} {t : TypeId} {l : List Value} (h : RowIs w g t l) (i : Nat) : w.cell? ⟨g, i, none⟩ = l[i]? := by
  rw [cell_of_row w g i _ t (0, 0) h]; simp
theorem RowIs.frozen {w : World} {g : Nat} {t : TypeId} {l : List Value} (h : RowIs w g t l) (i : Nat) : w.frozen? ⟨g, i, none⟩ = false := by
  unfold RowIs at h; simp [World.frozen?, h]
theorem RowIs.lt {w : World} {g : Nat} {t : TypeId} {l : List Value} (h : RowIs w g t l) : g < w.heap.size := (Array.getElem?_eq_some_iff.1 h).1
theorem RowIs.stored {w : World} {g : Nat} {t : TypeId} {l : List Value} (h : RowIs w g t l) (i : Nat) (u : Value) : RowIs (w.setCell ⟨g, i, none⟩ u) g t (l.set i u) := by
  unfold RowIs at h ⊢
  simp [World.setCell, Array.getElem?_modify, h]
theorem RowIs.below {w w' : World} {g : Nat} {t : TypeId} {l : List Value} (h : RowIs w g t l) {B : Nat} (hb : Below B w w') (hg : g < B) : RowIs w' g t l := (hb.block g hg).trans h

theorem FlatAt.of_row {w : World} {g : Nat} {t : TypeId} {cs : List Value} {n c : Nat} (hc : n ≤ c) (h : RowIs w g t cs) : FlatAt w (.slice (some ⟨g, 0, none⟩) n c) n cs :=
  ⟨_, c, rfl, hc, fun j u hu => ⟨g, 0, rfl, h.lt, by rw [Nat.zero_add, h.cell j]; exact hu⟩⟩

/-- Nothing but block g moved. -/
structure But (g : Nat) (w w' : World) : Prop where
  os : w'.os = w.os
  tape : w'.tape = w.tape
  output : w'.output = w.output
  size : w.heap.size ≤ w'.heap.size
  block : ∀ k, k < w.heap.size → k ≠ g → w'.heap[k]? = w.heap[k]?

theorem But.refl (g : Nat) (w : World) : But g w w := ⟨rfl, rfl, rfl, Nat.le_refl _, fun _ _ _ => rfl⟩
theorem But.trans {g : Nat} {a b c : World} (h : But g a b) (k : But g b c) : But g a c :=
  ⟨k.os.trans h.os, k.tape.trans h.tape, k.output.trans h.output, Nat.le_trans h.size k.size, fun i hi hg => (k.block i (Nat.lt_of_lt_of_le hi h.size) hg).trans (h.block i hi hg)⟩
theorem But.below {g B : Nat} {a b : World} (h : But g a b) (hB : B ≤ g) : B ≤ a.heap.size → Below B a b := fun hs =>
  ⟨h.os, h.tape, h.output, h.size, fun k hk => h.block k (by omega) (by omega)⟩
theorem But.ofBelow {g B : Nat} {a b : World} (h : Below B a b) (hB : a.heap.size ≤ B) : But g a b :=
  ⟨h.os, h.tape, h.output, h.size, fun k hk _ => h.block k (by omega)⟩
theorem But.setCell {g : Nat} {a w : World} (h : But g a w) (k : Nat) (u : Value) : But g a (w.setCell ⟨g, k, none⟩ u) := by
  have hb := (Below.refl g w).setCell (p := ⟨g, k, none⟩) (Nat.le_refl _) u
  exact ⟨hb.os.trans h.os, hb.tape.trans h.tape, hb.output.trans h.output, Nat.le_trans h.size hb.size, fun i hi hg => (Below.heap_setCell w ⟨g, k, none⟩ u i hg).trans (h.block i hi hg)⟩
theorem But.drewN {g : Nat} {a w : World} (h : But g a w) (n : Nat) : But g a (w.drewN n) := ⟨h.os, h.tape, h.output, h.size, h.block⟩
theorem RowIs.but {w w' : World} {g gl : Nat} {t : TypeId} {l : List Value} (h : RowIs w gl t l) (hb : But g w w') (hg : gl ≠ g) : RowIs w' gl t l := (hb.block gl h.lt hg).trans h
theorem But.alloc (g : Nat) (w : World) (o : Obj) : But g w (w.alloc o) := But.ofBelow ((Below.refl _ w).alloc (Nat.le_refl _) o) (Nat.le_refl _)

/-- Block g begins with these cells, and none of them is frozen. -/
def CellRow (w : World) (g : Nat) (cs : List Value) : Prop :=
  g < w.heap.size ∧ ∀ (j : Nat) u, cs[j]? = some u → w.cell? ⟨g, j, none⟩ = some u ∧ w.frozen? ⟨g, j, none⟩ = false

theorem CellRow.same {w w' : World} {g : Nat} {cs : List Value} (h : CellRow w g cs) (hb : w'.heap[g]? = w.heap[g]?) (hs : w.heap.size ≤ w'.heap.size) : CellRow w' g cs := by
  refine ⟨Nat.lt_of_lt_of_le h.1 hs, fun j u hu => ⟨?_, ?_⟩⟩
  · rw [World.cell?_of_block (w := w) hb]; exact (h.2 j u hu).1
  · have := (h.2 j u hu).2
    unfold World.frozen? at this ⊢
    rw [show w'.heap[(⟨g, j, none⟩ : Addr).block]? = w.heap[(⟨g, j, none⟩ : Addr).block]? from hb]
    exact this
theorem CellRow.below {w w' : World} {g B : Nat} {cs : List Value} (h : CellRow w g cs) (hb : Below B w w') (hg : g < B) : CellRow w' g cs := h.same (hb.block g hg) hb.size
theorem CellRow.but {w w' : World} {g k : Nat} {cs : List Value} (h : CellRow w g cs) (hb : But k w w') (hg : g ≠ k) : CellRow w' g cs := h.same (hb.block g h.1 hg) hb.size

theorem CellRow.set {w : World} {g : Nat} {cs : List Value} (h : CellRow w g cs) (k : Nat) (u : Value) (hk : k < cs.length) : CellRow (w.setCell ⟨g, k, none⟩ u) g (cs.set k u) := by
  refine ⟨Nat.lt_of_lt_of_le h.1 ((Below.refl g w).setCell (p := ⟨g, k, none⟩) (Nat.le_refl _) _).size, fun j v hv => ?_⟩
  rw [List.getElem?_set] at hv
  by_cases e : k = j
  · subst e
    rw [if_pos rfl, if_pos hk] at hv
    obtain rfl := Option.some.inj hv
    obtain ⟨h1, h2⟩ := h.2 k _ (List.getElem?_eq_getElem hk)
    exact ⟨World.cell?_setCell_same _ _ _ h1, by rw [World.frozen?_setCell]; exact h2⟩
  · rw [if_neg e] at hv
    obtain ⟨h1, h2⟩ := h.2 j _ hv
    exact ⟨by rw [World.cell?_setCell_other _ _ _ _ (fun h => e (by injection h))]; exact h1, by rw [World.frozen?_setCell]; exact h2⟩

theorem CellRow.of_row {w : World} {g : Nat} {t : TypeId} {cs : List Value} (h : RowIs w g t cs) : CellRow w g cs :=
  ⟨h.lt, fun j _ hu => ⟨(h.cell j).trans hu, h.frozen j⟩⟩

theorem CellRow.flat {w : World} {g : Nat} {cs : List Value} (h : CellRow w g cs) {n c : Nat} (hc : n ≤ c) : FlatAt w (.slice (some ⟨g, 0, none⟩) n c) n cs :=
  ⟨_, c, rfl, hc, fun j u hu => ⟨g, 0, rfl, h.1, by rw [Nat.zero_add]; exact (h.2 j u hu).1⟩⟩

theorem CellRow.of_own {w : World} {base g cap size n : Nat} {t : TypeId} {cs : List Value} (h : w.ownsRow base t size (.slice (some ⟨g, 0, none⟩) n cap) n cs) : base ≤ g ∧ n ≤ cap ∧ CellRow w g cs := by
  rcases h.2 with ⟨e, _⟩ | ⟨g', cap', cur, e, hb, hg, h1, h2, h3, h4⟩
  · simp at e
  · simp at e
    obtain ⟨rfl, rfl⟩ := e
    refine ⟨hb, h1, (Array.getElem?_eq_some_iff.1 hg).1, fun j u hu => ⟨?_, by simp [World.frozen?, hg]⟩⟩
    rw [cell_of_row w g j _ t (0, 0) hg]
    rw [← h4, List.getElem?_take] at hu
    split at hu
    · rw [Array.getElem?_toList] at hu; exact hu
    · simp at hu

/-- The first k elements, and d for the others. -/
def fill {α : Type} (l : List α) (d : α) (k : Nat) : List α := l.take k ++ List.replicate (l.length - k) d

theorem fill_length {α : Type} (l : List α) (d : α) (k : Nat) (h : k ≤ l.length) : (fill l d k).length = l.length := by unfold fill; simp; omega
theorem fill_set {α : Type} {l : List α} {d : α} {k : Nat} {x : α} (h : l[k]? = some x) : (fill l d k).set k x = fill l d (k + 1) := by
  have hlt := (List.getElem?_eq_some_iff.1 h).1
  unfold fill
  have hl : (l.take k).length = k := by rw [List.length_take]; omega
  rw [List.set_append_right _ _ (by omega), hl, Nat.sub_self]
  obtain ⟨m, hm⟩ : ∃ m, l.length - k = m + 1 := ⟨l.length - k - 1, by omega⟩
  rw [hm, List.replicate_succ, List.set_cons_zero, show l.length - (k + 1) = m by omega, List.take_add_one, h]
  simp
theorem fill_all {α : Type} (l : List α) (d : α) : fill l d l.length = l := by unfold fill; simp
theorem fill_zero {α : Type} (l : List α) (d : α) : fill l d 0 = List.replicate l.length d := by unfold fill; simp
theorem fill_at {α : Type} {l : List α} {d : α} {k : Nat} (h : k < l.length) : (fill l d k)[k]? = some d := by
  unfold fill
  rw [List.getElem?_append_right (by rw [List.length_take]; omega), List.length_take, Nat.min_eq_left (by omega), Nat.sub_self, List.getElem?_replicate, if_pos (by omega)]

/-- The cells that 'make' lays: n times those of one element. -/
theorem madeCells_list (z : Array Value) (n : Nat) : (madeCells z (n * z.size)).toList = (List.replicate n z.toList).flatten := by
  induction n with
  | zero => simp [madeCells]
  | succ n ih =>
    have e : (madeCells z ((n + 1) * z.size)).toList = (madeCells z (n * z.size)).toList ++ z.toList := by
      unfold madeCells
      simp only [Array.toList_map, Array.toList_range]
      rw [show (n + 1) * z.size = n * z.size + z.size by rw [Nat.add_mul, Nat.one_mul], List.range_add, List.map_append]
      congr 1
      rw [List.map_map]
      apply List.ext_getElem
      · simp
      · intro i h1 h2
        have hi : i < z.size := by simpa using h2
        simp only [List.getElem_map, List.getElem_range, Function.comp_apply, Array.getElem_toList]
        rw [Nat.add_comm, Nat.add_mul_mod_self_right, Nat.mod_eq_of_lt hi, getElem!_pos z i hi]
    rw [e, ih, List.replicate_succ', List.flatten_append]; simp

/-- The built-in append under a name that the walk does not open: its run is given as a fact. -/
def heldAppend (ats : Array TypeId) (ty : TypeId) (args : Array Value) : Sem Value := Builtin.append_ ats ty args
theorem builtin_append_held (ats : Array TypeId) (ty : TypeId) (cs : Array Bool) (args : Array Value) : builtin .append ats ty cs args = (do pure (.value (← heldAppend ats ty args))) := rfl

/-- The laws' mark in a bool. -/
def mkb (k : Int) : Bool := k % 3 == 0

end Go.Proofs.Ythmcjmjkmmbepaa
