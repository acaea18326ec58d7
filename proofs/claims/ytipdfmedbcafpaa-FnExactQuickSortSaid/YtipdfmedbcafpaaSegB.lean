/- What moves beside a part of a row: some blocks. Nothing of the program. -/
import Derived.Test.YtipdfmedbcafpaaSegT
namespace Go.Proofs.Ytipdfmedbcafpaa
open Go.RowKit P El Qk
set_option linter.unusedVariables false

/-- Nothing but n cells of block g from o on, and the blocks of Q, moved. -/
structure SegB (g o n : Nat) (Q : Nat → Prop) (w w' : World) : Prop where
  os : w'.os = w.os
  tape : w'.tape = w.tape
  output : w'.output = w.output
  size : w.heap.size ≤ w'.heap.size
  block : ∀ k, k < w.heap.size → k ≠ g → ¬ Q k → w'.heap[k]? = w.heap[k]?
  fz : ∀ j, w'.frozen? ⟨g, j, none⟩ = w.frozen? ⟨g, j, none⟩
  cell : ∀ j, j < o ∨ o + n ≤ j → w'.cell? ⟨g, j, none⟩ = w.cell? ⟨g, j, none⟩
theorem SegB.refl (g o n : Nat) (Q : Nat → Prop) (w : World) : SegB g o n Q w w := ⟨rfl, rfl, rfl, Nat.le_refl _, fun _ _ _ _ => rfl, fun _ => rfl, fun _ _ => rfl⟩
theorem SegB.trans {g o n : Nat} {Q : Nat → Prop} {a b c : World} (h : SegB g o n Q a b) (k : SegB g o n Q b c) : SegB g o n Q a c :=
  ⟨k.os.trans h.os, k.tape.trans h.tape, k.output.trans h.output, Nat.le_trans h.size k.size, fun i hi hg hq => (k.block i (Nat.lt_of_lt_of_le hi h.size) hg hq).trans (h.block i hi hg hq),
    fun j => (k.fz j).trans (h.fz j), fun j hj => (k.cell j hj).trans (h.cell j hj)⟩
theorem SegB.wide {g o n o' n' : Nat} {Q : Nat → Prop} {a b : World} (h : SegB g o n Q a b) (h1 : o' ≤ o) (h2 : o + n ≤ o' + n') : SegB g o' n' Q a b :=
  ⟨h.os, h.tape, h.output, h.size, h.block, h.fz, fun j hj => h.cell j (by omega)⟩
theorem SegB.zero {g o p : Nat} {Q : Nat → Prop} {a b : World} (h : SegB g o 0 Q a b) : SegB g p 0 Q a b :=
  ⟨h.os, h.tape, h.output, h.size, h.block, h.fz, fun j _ => h.cell j (by omega)⟩
theorem SegB.more {g o n : Nat} {Q R : Nat → Prop} {a b : World} (h : SegB g o n Q a b) (hq : ∀ k, Q k → R k) : SegB g o n R a b :=
  ⟨h.os, h.tape, h.output, h.size, fun k hk hg hr => h.block k hk hg (fun h => hr (hq k h)), h.fz, h.cell⟩
theorem ButS.segB {g o n : Nat} {a b : World} (h : ButS g o n a b) (Q : Nat → Prop) : SegB g o n Q a b :=
  ⟨h.but.os, h.but.tape, h.but.output, h.but.size, fun k hk hg _ => h.but.block k hk hg, h.fz, h.cell⟩
theorem SegB.drewN {g o n : Nat} {Q : Nat → Prop} {a w : World} (h : SegB g o n Q a w) (t : Nat) : SegB g o n Q a (w.drewN t) := ⟨h.os, h.tape, h.output, h.size, h.block, h.fz, h.cell⟩
theorem SegB.ofBelow {g o n : Nat} {a b : World} (h : Below a.heap.size a b) (hg : g < a.heap.size) (Q : Nat → Prop) : SegB g o n Q a b := (ButS.ofBelow h hg).segB Q
/-- A store in one of the blocks. -/
theorem SegB.put {g o n : Nat} {Q : Nat → Prop} {a w : World} (h : SegB g o n Q a w) (s i : Nat) (u : Value) (hs : Q s) (hg : s ≠ g) : SegB g o n Q a (w.setCell ⟨s, i, none⟩ u) := by
  have hb := (Below.refl s w).setCell (p := ⟨s, i, none⟩) (Nat.le_refl _) u
  have hbg : (w.setCell ⟨s, i, none⟩ u).heap[g]? = w.heap[g]? := Below.heap_setCell w ⟨s, i, none⟩ u g (fun e => hg e.symm)
  refine ⟨hb.os.trans h.os, hb.tape.trans h.tape, hb.output.trans h.output, Nat.le_trans h.size hb.size, fun k hk hkg hq => (Below.heap_setCell w ⟨s, i, none⟩ u k (fun e => hq (e ▸ hs))).trans (h.block k hk hkg hq), fun j => ?_, fun j hj => ?_⟩
  · rw [World.frozen?_setCell]; exact h.fz j
  · rw [World.cell?_of_block (w := w) hbg]; exact h.cell j hj
theorem SegB.row {g o n k : Nat} {Q : Nat → Prop} {a b : World} {cs : List Value} (h : SegB g o n Q a b) (hr : CellRow a k cs) (hg : k ≠ g) (hq : ¬ Q k) : CellRow b k cs := hr.same (h.block k hr.1 hg hq) h.size
theorem Seg.keepB {w w' : World} {g o p n : Nat} {Q : Nat → Prop} {cs : List Value} (h : Seg w g o cs) (hb : SegB g p n Q w w') (hd : o + cs.length ≤ p ∨ p + n ≤ o) : Seg w' g o cs :=
  ⟨Nat.lt_of_lt_of_le h.1 hb.size, fun j u hu => by
    have hj := (List.getElem?_eq_some_iff.1 hu).1
    rw [hb.cell _ (by omega), hb.fz]
    exact h.2 j u hu⟩
theorem SegB.below {g o n B : Nat} {Q : Nat → Prop} {a b : World} (h : SegB g o n Q a b) (hg : B ≤ g) (hq : ∀ k, Q k → B ≤ k) (hs : B ≤ a.heap.size) : Below B a b :=
  ⟨h.os, h.tape, h.output, h.size, fun k hk => h.block k (by omega) (by omega) (fun hh => by have := hq k hh; omega)⟩
/-- Three parts, the outer two sorted one after the other. -/
theorem Seg.threeB {g o n lt gt : Nat} {Q : Nat → Prop} {M A B : List Int} {w2 w3 w4 : World} (h : Seg w2 g o (ints M)) (hM : M.length = n) (h1 : lt ≤ gt) (h2 : gt ≤ n) (hA : A.length = lt) (hB : B.length = n - gt)
    (s1 : Seg w3 g o (ints A)) (p1 : SegB g o lt Q w2 w3) (s2 : Seg w4 g (o + gt) (ints B)) (p2 : SegB g (o + gt) (n - gt) Q w3 w4) : Seg w4 g o (ints (A ++ ((M.take gt).drop lt ++ B))) ∧ SegB g o n Q w2 w4 := by
  obtain ⟨e1, e2, e3⟩ := h.parts h1 (by omega)
  have hml : ((M.take gt).drop lt).length = gt - lt := by rw [List.length_drop, List.length_take, Nat.min_eq_left (by omega)]
  have m3 := e2.keepB p1 (.inr (Nat.le_refl _))
  have m4 := m3.keepB p2 (.inl (by rw [ints_length, hml]; omega))
  have a4 := s1.keepB p2 (.inl (by rw [ints_length, hA]; omega))
  refine ⟨?_, (p1.wide (Nat.le_refl _) (by omega)).trans (p2.wide (by omega) (by omega))⟩
  rw [ints_append, ints_append]
  exact a4.join (m4.join s2 (by rw [ints_length, hml]; omega)) (by rw [ints_length, hA])

end Go.Proofs.Ytipdfmedbcafpaa
