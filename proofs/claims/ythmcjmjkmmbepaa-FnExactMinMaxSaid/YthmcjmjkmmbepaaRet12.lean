/- Answers that are a new list of numbers, one number or two, and a bool. -/
import Derived.Test.YthmcjmjkmmbepaaRetI
namespace Go.Proofs.Ythmcjmjkmmbepaa
open Go.RowKit

def RetI1 (r : List Int × Int × Bool) (w : World) (e : Ending) (w' : World) : Prop :=
  ∃ g c, e = .returned (.tuple #[.slice (some ⟨g, 0, none⟩) r.1.length c, .int .i64 r.2.1, .bool r.2.2]) ∧ r.1.length ≤ c ∧ w.heap.size ≤ g ∧ CellRow w' g (ints r.1) ∧ Below w.heap.size w w'
def RetI2 (r : List Int × Int × Int × Bool) (w : World) (e : Ending) (w' : World) : Prop :=
  ∃ g c, e = .returned (.tuple #[.slice (some ⟨g, 0, none⟩) r.1.length c, .int .i64 r.2.1, .int .i64 r.2.2.1, .bool r.2.2.2]) ∧ r.1.length ≤ c ∧ w.heap.size ≤ g ∧ CellRow w' g (ints r.1) ∧ Below w.heap.size w w'
theorem RetI1.none (w w1 : World) (hb : Below w.heap.size w w1) : RetI1 ([], 0, false) w (.returned (.tuple #[.slice (some ⟨w1.heap.size, 0, none⟩) 0 0, .int .i64 0, .bool false])) (w1.alloc (.cells #[] 3)) :=
  ⟨w1.heap.size, 0, rfl, Nat.le_refl _, hb.size, ⟨by simp, fun j u hu => by simp [ints] at hu⟩, hb.alloc hb.size _⟩
theorem RetI2.none (w w1 : World) (hb : Below w.heap.size w w1) : RetI2 ([], 0, 0, false) w (.returned (.tuple #[.slice (some ⟨w1.heap.size, 0, none⟩) 0 0, .int .i64 0, .int .i64 0, .bool false])) (w1.alloc (.cells #[] 3)) :=
  ⟨w1.heap.size, 0, rfl, Nat.le_refl _, hb.size, ⟨by simp, fun j u hu => by simp [ints] at hu⟩, hb.alloc hb.size _⟩

end Go.Proofs.Ythmcjmjkmmbepaa
