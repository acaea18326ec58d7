/- Small laws for a loop over an iterator inside a loop: the marks that each such loop leaves among a frame's deferred calls, taken in at the return; a scope at the wide fence. -/
import Derived.Test.YtjmmhakmidddoaaRows
import Derived.RangeFuncNested
import Derived.RangeFuncLeaves
import Derived.RangeFuncFrom
import Derived.Scope
import Derived.WalkKit
namespace Go.Proofs.Ytjmmhakmidddoaa
open Go.RowKit

theorem wide_scope {n : Nat} {P : Program} {Q : Exit → Act → World → Prop} {a : Act} {w : World} {c : Code} (h : c.wpIn Fence.wide n P (Exit.noGoto Q) a w) :
    (Code.scope c).wpIn Fence.wide n P Q a w := wpIn_wide.2 (wp_scope_straight (wpIn_wide.1 h))

/-- A frame's marks. -/
def marks (ms : List Nat) : List Deferred := ms.map fun D => { target := .collected D, args := #[] }

/-- Each mark's block still stands ready, beyond 'base'; no block twice. -/
def Ready (base : Nat) (ms : List Nat) (W : World) : Prop := (∀ D ∈ ms, base ≤ D ∧ W.heap[D]? = some (.deferred (some []))) ∧ ms.Nodup

theorem Ready.nil (base : Nat) (W : World) : Ready base [] W := ⟨fun _ h => by simp at h, List.nodup_nil⟩

theorem Ready.below {base B : Nat} {ms : List Nat} {W W' : World} (h : Ready base ms W) (hb : Below B W W') (hB : W.heap.size ≤ B) : Ready base ms W' :=
  ⟨fun D hD => ⟨(h.1 D hD).1, by rw [hb.block D (Nat.lt_of_lt_of_le (Array.getElem?_eq_some_iff.1 (h.1 D hD).2).1 hB)]; exact (h.1 D hD).2⟩, h.2⟩

theorem Ready.setCell {base : Nat} {ms : List Nat} {W : World} (h : Ready base ms W) {p : Addr} (hp : p.block < base) (v : Value) : Ready base ms (W.setCell p v) :=
  ⟨fun D hD => ⟨(h.1 D hD).1, by rw [Below.heap_setCell _ _ _ _ (by have := (h.1 D hD).1; omega)]; exact (h.1 D hD).2⟩, h.2⟩

theorem Ready.cons {base D : Nat} {ms : List Nat} {W : World} (h : Ready base ms W) (hD : base ≤ D) (hr : W.heap[D]? = some (.deferred (some []))) (hn : D ∉ ms) : Ready base (D :: ms) W :=
  ⟨fun x hx => by rcases List.mem_cons.1 hx with rfl | hx; exact ⟨hD, hr⟩; exact h.1 x hx, List.nodup_cons.2 ⟨hn, h.2⟩⟩

/-- THE RETURN: all marks are taken in; below 'base' nothing turns. -/
theorem leaves_marks {F : Fence} {n : Nat} {P : Program} {fn : Func} {tmps : Array Value} {R : Ending → World → Prop} {base : Nat} : ∀ (ms : List Nat) (W : World), base ≤ W.heap.size → Ready base ms W →
    (∀ W', Below base W W' → LeavesInM F n P fn tmps R [] .returning W') → LeavesInM F n P fn tmps R (marks ms) .returning W
  | [], W, _, _, h => h W (Below.refl _ _)
  | D :: ms, W, hs, hr, h => by
    have hD := hr.1 D (by simp)
    have hlt := (Array.getElem?_eq_some_iff.1 hD.2).1
    have hb : Below base W (W.putObj D (.deferred none)) :=
      ⟨rfl, rfl, rfl, by simp [World.putObj], fun k hk => World.putObj_heap_other (by omega)⟩
    have hnd := List.nodup_cons.1 hr.2
    refine ⟨by simp, .inl ⟨D, _, rfl, run_takeDeferred hD.2, ?_⟩⟩
    refine leaves_marks ms _ (Nat.le_trans hs hb.size) ⟨fun x hx => ⟨(hr.1 x (by simp [hx])).1, ?_⟩, hnd.2⟩ (fun W' hb' => h W' (hb.trans hb'))
    rw [World.putObj_heap_other (by rintro rfl; exact hnd.1 hx)]
    exact (hr.1 x (by simp [hx])).2

theorem below_setCells {n : Nat} {A B : World} (h : Below n A B) (p : Addr) (v : Value) : Below n (A.setCell p v) (B.setCell p v) :=
  ⟨h.os, h.tape, h.output, by simpa [World.setCell] using h.size, fun k hk => by
    simp only [World.setCell, Array.getElem?_modify]
    by_cases hp : p.block = k
    · subst hp; simp [h.block _ hk]
    · simp [hp, h.block k hk]⟩

end Go.Proofs.Ytjmmhakmidddoaa
