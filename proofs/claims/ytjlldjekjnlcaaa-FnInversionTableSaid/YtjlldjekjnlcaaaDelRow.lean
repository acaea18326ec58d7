/- slices.Delete of a row of the call's own. -/
import Derived.Test.YtjlldjekjnlcaaaShelf
import Derived.Test.YtjlldjekjnlcaaaSets
import Derived.Deep.Upon
import Derived.Deep.MidRow
namespace Go.Proofs.Ytjlldjekjnlcaaa
open Go.RowKit

/-- slices.Delete of one element of a row: the rest in order, then a zero. -/
theorem delete_row (g c n i : Nat) (L : List Int) (w : World) (h : CellRow w g (ints L)) (hn : n ≤ L.length) (hc : L.length ≤ c) (hc2 : c ≤ 1048576) (hi : i < n) :
    Calls Try.prog 74 #[.slice (some ⟨g, 0, none⟩) n c, .int .i64 (i : Int), .int .i64 ((i + 1 : Nat) : Int)] w fun e w' => e = .returned (.slice (some ⟨g, 0, none⟩) (n - 1) c) ∧ CellRow w' g (ints ((L.take n).eraseIdx i ++ [0] ++ L.drop n)) ∧ But g w w' := by
  refine (Try.slices_Delete_int_cells g 0 n c i (i + 1) L w hn (by omega) (by omega) (by omega) (by omega) (fun j hj => ?_) (fun j hj => ?_)).mono ?_
  · rw [Nat.zero_add]
    have := (h.2 j _ (ints_at (List.getElem?_eq_getElem hj))).1
    rw [List.getD_eq_getElem?_getD, List.getElem?_eq_getElem hj]; exact this
  · rw [Nat.zero_add]
    exact (h.2 j _ (ints_at (List.getElem?_eq_getElem (by omega : j < L.length)))).2
  · rintro e w' ⟨rfl, q, rfl⟩
    refine ⟨by rw [show i + 1 - i = 1 by omega], ?_, (But.refl g w).sets 0 q _⟩
    have hl : (((L.take n).take i ++ (L.take n).drop (i + 1) ++ List.replicate (i + 1 - i) 0).map (Value.int .i64)).length = n := by simp; omega
    have := h.sets 0 q (((L.take n).take i ++ (L.take n).drop (i + 1) ++ List.replicate (i + 1 - i) 0).map (Value.int .i64)) (by rw [hl, ints_length]; omega)
    rw [hl] at this
    have e : (ints L).take 0 ++ ((L.take n).take i ++ (L.take n).drop (i + 1) ++ List.replicate (i + 1 - i) 0).map (Value.int .i64) ++ (ints L).drop (0 + n) = ints ((L.take n).eraseIdx i ++ [0] ++ L.drop n) := by
      rw [List.eraseIdx_eq_take_drop_succ, show i + 1 - i = 1 by omega, Nat.zero_add]
      unfold ints
      simp
    rw [e] at this
    exact this

end Go.Proofs.Ytjlldjekjnlcaaa
