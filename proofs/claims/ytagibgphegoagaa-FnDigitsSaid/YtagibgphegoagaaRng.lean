/- Rows of numbers given by a function of the place. Nothing of the program. -/
import Derived.Test.YtagibgphegoagaaInts
namespace Go.Proofs.Ytagibgphegoagaa
open Go.RowKit
set_option linter.unusedVariables false

def rng (f : Nat → Nat) (b : Nat) : List Int := (List.range b).map fun d => (f d : Int)
theorem rng_length (f : Nat → Nat) (b : Nat) : (rng f b).length = b := by simp [rng]
theorem rng_at (f : Nat → Nat) {b d : Nat} (h : d < b) : (rng f b)[d]? = some (f d : Int) := by simp [rng, h]
theorem rng_set (f : Nat → Nat) (b d v : Nat) : (rng f b).set d (v : Int) = rng (fun k => if k = d then v else f k) b := by
  refine List.ext_getElem? fun k => ?_
  rw [List.getElem?_set]
  by_cases hk : k < b
  · rw [rng_at _ hk, rng_at _ hk, rng_length]
    by_cases hd : d = k
    · subst hd; simp [hk]
    · rw [if_neg hd, if_neg (fun e => hd e.symm)]
  · rw [List.getElem?_eq_none (l := rng f b) (by rw [rng_length]; omega), List.getElem?_eq_none (l := rng _ b) (by rw [rng_length]; omega), rng_length]
    split
    · rw [if_neg (by omega)]
    · rfl
theorem rng_congr {f h : Nat → Nat} {b : Nat} (e : ∀ k, k < b → f k = h k) : rng f b = rng h b := List.map_congr_left fun k hk => by rw [e k (List.mem_range.1 hk)]
theorem rng_zero (b : Nat) : rng (fun _ => 0) b = List.replicate b 0 := by
  refine List.ext_getElem? fun k => ?_
  by_cases hk : k < b
  · rw [rng_at _ hk]; simp [hk]
  · rw [List.getElem?_eq_none (by rw [rng_length]; omega), List.getElem?_eq_none (by simp; omega)]

/-- A row of them in block g. -/
def RngAt (w : World) (g : Nat) (f : Nat → Nat) (b : Nat) : Prop := CellRow w g (ints (rng f b))
theorem RngAt.at {w : World} {g b : Nat} {f : Nat → Nat} (h : RngAt w g f b) {k : Nat} (hk : k < b) : w.cell? ⟨g, k, none⟩ = some (.int .i64 (f k : Int)) ∧ w.frozen? ⟨g, k, none⟩ = false := And.right h k _ (ints_at (rng_at f hk))
theorem RngAt.put {w : World} {g b : Nat} {f : Nat → Nat} (h : RngAt w g f b) (d v : Nat) (hd : d < b) : RngAt (w.setCell ⟨g, d, none⟩ (.int .i64 (v : Int))) g (fun k => if k = d then v else f k) b := by
  have := CellRow.set h d (.int .i64 (v : Int)) (by rw [ints_length, rng_length]; exact hd)
  rw [ints_set, rng_set] at this
  exact this
theorem RngAt.lt {w : World} {g b : Nat} {f : Nat → Nat} (h : RngAt w g f b) : g < w.heap.size := And.left h
theorem RngAt.below {w w' : World} {g b : Nat} {f : Nat → Nat} (h : RngAt w g f b) {B : Nat} (hb : Below B w w') (hg : g < B) : RngAt w' g f b := CellRow.below h hb hg
theorem RngAt.but {w w' : World} {g k b : Nat} {f : Nat → Nat} (h : RngAt w g f b) (hb : But k w w') (hg : g ≠ k) : RngAt w' g f b := CellRow.but h hb hg
theorem RngAt.congr {w : World} {g b : Nat} {f h : Nat → Nat} (ht : RngAt w g f b) (e : ∀ k, k < b → f k = h k) : RngAt w g h b := by unfold RngAt at ht ⊢; rw [← rng_congr e]; exact ht

end Go.Proofs.Ytagibgphegoagaa
