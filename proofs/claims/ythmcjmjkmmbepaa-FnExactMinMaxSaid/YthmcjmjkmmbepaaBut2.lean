/- Worlds that differ in two blocks alone. -/
import Derived.Test.YthmcjmjkmmbepaaInts
namespace Go.Proofs.Ythmcjmjkmmbepaa
open Go.RowKit

/-- Nothing but the blocks s and g moved. -/
structure But2 (s g : Nat) (w w' : World) : Prop where
  os : w'.os = w.os
  tape : w'.tape = w.tape
  output : w'.output = w.output
  size : w.heap.size ≤ w'.heap.size
  block : ∀ k, k < w.heap.size → k ≠ s → k ≠ g → w'.heap[k]? = w.heap[k]?
theorem But2.refl (s g : Nat) (w : World) : But2 s g w w := ⟨rfl, rfl, rfl, Nat.le_refl _, fun _ _ _ _ => rfl⟩
theorem But2.trans {s g : Nat} {a b c : World} (h : But2 s g a b) (k : But2 s g b c) : But2 s g a c :=
  ⟨k.os.trans h.os, k.tape.trans h.tape, k.output.trans h.output, Nat.le_trans h.size k.size, fun i hi h1 h2 => (k.block i (Nat.lt_of_lt_of_le hi h.size) h1 h2).trans (h.block i hi h1 h2)⟩
theorem But2.drewN {s g : Nat} {a w : World} (h : But2 s g a w) (n : Nat) : But2 s g a (w.drewN n) := ⟨h.os, h.tape, h.output, h.size, h.block⟩
theorem But2.below {s g B : Nat} {a b : World} (h : But2 s g a b) (h1 : B ≤ s) (h2 : B ≤ g) : B ≤ a.heap.size → Below B a b := fun hs =>
  ⟨h.os, h.tape, h.output, h.size, fun k hk => h.block k (by omega) (by omega) (by omega)⟩
theorem But2.ofBelow {s g B : Nat} {a b : World} (h : Below B a b) (hB : a.heap.size ≤ B) : But2 s g a b :=
  ⟨h.os, h.tape, h.output, h.size, fun k hk _ _ => h.block k (by omega)⟩
theorem But2.setCell {s g : Nat} {a w : World} (h : But2 s g a w) (b k : Nat) (u : Value) (hb : b = s ∨ b = g) : But2 s g a (w.setCell ⟨b, k, none⟩ u) := by
  have hs := (Below.refl b w).setCell (p := ⟨b, k, none⟩) (Nat.le_refl _) u
  exact ⟨hs.os.trans h.os, hs.tape.trans h.tape, hs.output.trans h.output, Nat.le_trans h.size hs.size, fun i hi h1 h2 => (Below.heap_setCell w ⟨b, k, none⟩ u i (by show i ≠ b; omega)).trans (h.block i hi h1 h2)⟩

end Go.Proofs.Ythmcjmjkmmbepaa
