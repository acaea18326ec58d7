/- slices.Delete and slices.Reverse of a row of the call's own. -/
import Derived.Test.YtckogbmaahenhaaShelf
import Derived.Test.YtckogbmaahenhaaInts
import Derived.Deep.Upon
import Derived.Deep.MidRow
namespace Go.Proofs.Ytckogbmaahenhaa
open Go.RowKit

theorem But.sets0 {g : Nat} {a : World} : ∀ (vs : List Value) (o : Nat) (w : World), But g a w → But g a (w.setCells g o vs)
  | [], _, _, h => h
  | v :: r, o, _, h => But.sets0 r (o + 1) _ (h.setCell o v)
theorem But.sets {g : Nat} {a w : World} (h : But g a w) (o q : Nat) (vs : List Value) : But g a ((w.drewN q).setCells g o vs) := But.sets0 vs o _ (h.drewN q)

theorem CellRow.sets {w : World} {g : Nat} {cs : List Value} (h : CellRow w g cs) (o q : Nat) (vs : List Value) (hl : o + vs.length ≤ cs.length) :
    CellRow ((w.drewN q).setCells g o vs) g (cs.take o ++ vs ++ cs.drop (o + vs.length)) := by
  refine ⟨?_, fun j u hu => ⟨?_, by rw [World.frozen?_setCells]; obtain ⟨hj, _⟩ := List.getElem?_eq_some_iff.1 hu; exact (h.2 j _ (List.getElem?_eq_getElem (by simp at hj; omega))).2⟩⟩
  · exact Nat.lt_of_lt_of_le h.1 ((But.refl g w).sets o q vs).size
  · by_cases h1 : j < o
    · rw [World.cell?_setCells_out g vs o (w.drewN q) ⟨g, j, none⟩ (fun _ _ => .inl h1)]
      rw [List.append_assoc, List.getElem?_append_left (by simp; omega), List.getElem?_take_of_lt h1] at hu
      exact (h.2 j u hu).1
    · by_cases h2 : j < o + vs.length
      · obtain ⟨k, rfl⟩ : ∃ k, j = o + k := ⟨j - o, by omega⟩
        have hk : k < vs.length := by omega
        rw [World.cell?_setCells_in g vs o (w.drewN q) (fun i hi => by rw [show (w.drewN q).cell? ⟨g, o + i, none⟩ = _ from (h.2 (o + i) _ (List.getElem?_eq_getElem (by omega))).1]; rfl) k hk]
        rw [List.append_assoc, List.getElem?_append_right (by simp; omega), List.length_take, Nat.min_eq_left (by omega), Nat.add_sub_cancel_left, List.getElem?_append_left hk, List.getElem?_eq_getElem hk] at hu
        exact hu
      · rw [World.cell?_setCells_out g vs o (w.drewN q) ⟨g, j, none⟩ (fun _ _ => .inr (by simpa using h2))]
        rw [List.getElem?_append_right (by simp; omega), List.getElem?_drop] at hu
        rw [show o + vs.length + (j - (cs.take o ++ vs).length) = j by simp; omega] at hu
        exact (h.2 j u hu).1

/-- slices.Delete of one element of a row: the rest in order, then a zero. -/
theorem delete_row (g c n i : Nat) (L : List Int) (w : World) (h : CellRow w g (ints L)) (hn : n ≤ L.length) (hc : L.length ≤ c) (hc2 : c ≤ 1048576) (hi : i < n) :
    Calls Try.prog 117 #[.slice (some ⟨g, 0, none⟩) n c, .int .i64 (i : Int), .int .i64 ((i + 1 : Nat) : Int)] w fun e w' => e = .returned (.slice (some ⟨g, 0, none⟩) (n - 1) c) ∧ CellRow w' g (ints ((L.take n).eraseIdx i ++ [0] ++ L.drop n)) ∧ But g w w' := by
  refine (Try.slices_Delete_int_cells g 0 n c i (i + 1) L w hn (by omega) (by omega) (by omega) (by omega) (fun j hj => ?_) (fun j hj => ?_)).mono ?_
  · rw [Nat.zero_add]
    have := (h.2 j _ (ints_at (List.getElem?_eq_getElem hj))).1
    rw [List.getD_eq_getElem?_getD, List.getElem?_eq_getElem hj]; exact this
  · rw [Nat.zero_add]
    exact (h.2 j _ (ints_at (List.getElem?_eq_getElem (by omega : j < L.length)))).2
  · rintro e w' ⟨rfl, q, rfl⟩
    refine ⟨by rw [show i + 1 - i = 1 by omega], ?_, (But.refl g w).sets 0 q _⟩
    have hl : (((L.take n).take i ++ (L.take n).drop (i + 1) ++ List.replicate (i + 1 - i) 0).map (Value.int .i64)).length = n := by simp; omega
    have := h.sets 0 q (((L.take n).take i ++ (L.take n).drop (i + 1) ++ List.replicate (i + 1 - i) 0).map (Value.int .i64)) (by rw [hl, ints_length]; omega)
    rw [hl] at this
    have e : (ints L).take 0 ++ ((L.take n).take i ++ (L.take n).drop (i + 1) ++ List.replicate (i + 1 - i) 0).map (Value.int .i64) ++ (ints L).drop (0 + n) = ints ((L.take n).eraseIdx i ++ [0] ++ L.drop n) := by
      rw [List.eraseIdx_eq_take_drop_succ, show i + 1 - i = 1 by omega, Nat.zero_add]
      unfold ints
      simp
    rw [e] at this
    exact this

/-- slices.Reverse of a part of a row. -/
theorem reverse_row (g o n c : Nat) (L : List Int) (w : World) (h : CellRow w g (ints L)) (hn : L.length = o + n) (hc2 : n ≤ 1048576) :
    Calls Try.prog 90 #[.slice (some ⟨g, o, none⟩) n c] w fun e w' => e = .returned (.tuple #[]) ∧ CellRow w' g (ints (L.take o ++ (L.drop o).reverse)) ∧ But g w w' := by
  refine (Try.slices_Reverse_int_cells g o n c (L.drop o) w (by simp; omega) (by omega) (fun j hj => ?_) (fun j hj => ?_)).mono ?_
  · have hj' : o + j < L.length := by simp at hj; omega
    have := (h.2 (o + j) _ (ints_at (List.getElem?_eq_getElem hj'))).1
    rw [List.getD_eq_getElem?_getD, List.getElem?_drop, List.getElem?_eq_getElem hj']; exact this
  · exact (h.2 (o + j) _ (ints_at (List.getElem?_eq_getElem (by omega : o + j < L.length)))).2
  · rintro e w' ⟨rfl, q, rfl⟩
    refine ⟨rfl, ?_, (But.refl g w).sets o q _⟩
    have hl : (((L.drop o).take n).reverse.map (Value.int .i64)).length = n := by simp; omega
    have := h.sets o q (((L.drop o).take n).reverse.map (Value.int .i64)) (by rw [hl, ints_length]; omega)
    rw [hl] at this
    have e : (ints L).take o ++ ((L.drop o).take n).reverse.map (Value.int .i64) ++ (ints L).drop (o + n) = ints (L.take o ++ (L.drop o).reverse) := by
      rw [List.take_of_length_le (l := L.drop o) (by simp; omega), show (ints L).drop (o + n) = [] from List.drop_eq_nil_of_le (by rw [ints_length]; omega)]
      unfold ints
      simp
    rw [e] at this
    exact this

end Go.Proofs.Ytckogbmaahenhaa
