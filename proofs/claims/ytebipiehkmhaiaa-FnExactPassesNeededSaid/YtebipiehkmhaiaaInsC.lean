/- 'append(append(append([]Record{}, l[:k]...), r), l[k:]...)': a record put into a list, in whatever order its parts are laid. -/
import Derived.Test.YtebipiehkmhaiaaHeldC
namespace Go.Proofs.Ytebipiehkmhaiaa
open Go.RowKit
set_option linter.unusedVariables false

/-- 'append(l, list...)', told of every block. -/
theorem appendManyC2 (base : Nat) (v : Value) (L : List (Int × Int)) (b o c : Nat) (l : List (Int × Int)) (w : World) (h : HeldC base w v L) (hb : base ≤ w.heap.size) (hn : L.length + l.length ≤ 2097152)
    (hl : ∀ (j : Nat) u, (recs l)[j]? = some u → w.cell? ⟨b, o + j, none⟩ = some u) :
    ∃ v' w', (heldAppend #[24, 24] 24 #[v, .slice (some ⟨b, o, none⟩) l.length c]).run Try.prog w = .ok v' w' ∧
      HeldC base w' v' (L ++ l) ∧ Below base w w' ∧ ∀ k, k < w.heap.size → (∀ g n c, v = .slice (some ⟨g, 0, none⟩) n c → k ≠ g) → w'.heap[k]? = w.heap[k]? := by
  obtain ⟨i0, hi, hz0, hz1, hz2⟩ := info_parts infoC
  obtain ⟨h, g, cv, rfl⟩ := h
  obtain ⟨v', w', hrun, hown, hgrow, hnil⟩ := run_append_own (P := Try.prog) (w := w) base 24 24 45 i0 (.agg #[.int .i64 0, .int .i64 0]) 2 16 Try.underlying24 hi hz0 hz1 hz2 rfl (by decide)
    _ L.length (recs L) h ⟨b, o, none⟩ l.length c (recs l) (recs_length l) (fun j u hu => by rw [addC]; exact hl j u hu) (recs_cellC l) (by unfold maxLen; omega) (by omega) (by omega)
  rw [← recs_append L l, ← show (L ++ l).length = L.length + l.length by simp] at hown
  refine ⟨v', w', hrun, ⟨hown, ?_⟩, (Below.refl base w).grown hgrow (by omega) (fun j e => (h.lt j e).1), fun k hk hne => hgrow.block k hk (fun e => hne g L.length cv rfl (by simpa [Value.ownBlock] using e))⟩
  rcases hown.2 with ⟨e, hz⟩ | ⟨g', cap, cur, e, _⟩
  · have := (hnil.1 e).1
    simp at this
  · exact ⟨g', cap, e⟩

theorem recs_takeC (L : List (Int × Int)) (m : Nat) {j : Nat} {u : Value} (h : (recs (L.take m))[j]? = some u) : (recs L)[j]? = some u := by
  have e : recs L = recs (L.take m) ++ recs (L.drop m) := by rw [← recs_append, List.take_append_drop]
  rw [e, List.getElem?_append_left (List.getElem?_eq_some_iff.1 h).1]; exact h
theorem recs_dropC (L : List (Int × Int)) (m : Nat) (hm : m ≤ L.length) {j : Nat} {u : Value} (h : (recs (L.drop m))[j]? = some u) : (recs L)[m * 2 + j]? = some u := by
  have e : recs L = recs (L.take m) ++ recs (L.drop m) := by rw [← recs_append, List.take_append_drop]
  have hl : (recs (L.take m)).length = m * 2 := by rw [recs_length, List.length_take, Nat.min_eq_left hm]
  rw [e, List.getElem?_append_right (by omega), hl, show m * 2 + j - m * 2 = j by omega]; exact h

/-- The three appends, the literals laid ahead of them: e the empty one, xb the one of the record. -/
theorem insertAtC (e xb gl c k o c' m : Nat) (x y : Int) (L : List (Int × Int)) (base : Nat) (V : World) (hE : HeldC base V (.slice (some ⟨e, 0, none⟩) 0 0) []) (hX : V.cell? ⟨xb, 0, none⟩ = some (.int .i64 x)) (hY : V.cell? ⟨xb, 1, none⟩ = some (.int .i64 y)) (hxe : xb ≠ e) (hxV : xb < V.heap.size)
    (hbV : base ≤ V.heap.size) (h : CellRow V gl (recs L)) (hgl : gl < base) (hk : k ≤ L.length) (hn : L.length ≤ 1000000) (hm : m = L.length - k) (ho : k < L.length → o = k * 2) :
    ∃ v1 w1 v2 w2 v3 w3, (heldAppend #[24, 24] 24 #[.slice (some ⟨e, 0, none⟩) 0 0, .slice (some ⟨gl, 0, none⟩) k c]).run Try.prog V = .ok v1 w1 ∧
      (heldAppend #[24, 24] 24 #[v1, .slice (some ⟨xb, 0, none⟩) 1 1]).run Try.prog w1 = .ok v2 w2 ∧
      (heldAppend #[24, 24] 24 #[v2, .slice (some ⟨gl, o, none⟩) m c']).run Try.prog w2 = .ok v3 w3 ∧
      HeldC base w3 v3 (L.take k ++ [(x, y)] ++ L.drop k) ∧ Below base V w3 ∧ Below base V w1 := by
  have hl : (L.take k).length = k := by rw [List.length_take]; omega
  have hl2 : (L.drop k).length = m := by rw [List.length_drop]; omega
  obtain ⟨v1, w1, r1, h1, b1, k1⟩ := appendManyC2 base _ [] gl 0 c (L.take k) V hE hbV (by simp; omega) (fun j u hu => by
    rw [Nat.zero_add]
    exact (h.2 j u (recs_takeC L k hu)).1)
  rw [hl] at r1
  rw [List.nil_append] at h1
  have hX1 : w1.cell? ⟨xb, 0, none⟩ = some (.int .i64 x) := by
    rw [World.cell?_of_block (w := V) (k1 xb hxV (fun g n c e' => by simp at e'; omega))]; exact hX
  have hY1 : w1.cell? ⟨xb, 1, none⟩ = some (.int .i64 y) := by
    rw [World.cell?_of_block (w := V) (k1 xb hxV (fun g n c e' => by simp at e'; omega))]; exact hY
  obtain ⟨v2, w2, r2, h2, b2, _⟩ := appendManyC2 base v1 (L.take k) xb 0 1 [(x, y)] w1 h1 (Nat.le_trans hbV b1.size) (by simp; omega) (fun j u hu => by
    match j, hu with
    | 0, hu => simp [recs] at hu; subst hu; exact hX1
    | 1, hu => simp [recs] at hu; subst hu; exact hY1
    | j + 2, hu => simp [recs] at hu)
  have b12 := b1.trans b2
  obtain ⟨v3, w3, r3, h3, b3, _⟩ := appendManyC2 base v2 (L.take k ++ [(x, y)]) gl o c' (L.drop k) w2 h2 (Nat.le_trans hbV b12.size) (by simp; omega) (fun j u hu => by
    have hj := (List.getElem?_eq_some_iff.1 hu).1
    rw [recs_length, hl2] at hj
    rw [ho (by omega)]
    exact (b12.cell (p := ⟨gl, k * 2 + j, none⟩) hgl).trans (h.2 _ u (recs_dropC L k hk hu)).1)
  rw [hl2] at r3
  exact ⟨v1, w1, v2, w2, v3, w3, r1, by simpa using r2, r3, h3, b12.trans b3, b1⟩

/-- And the one of the record laid behind the first append. -/
theorem insertLateC (gl c k o c' m : Nat) (x y : Int) (L : List (Int × Int)) (W : World) (h : CellRow W gl (recs L)) (hk : k ≤ L.length) (hn : L.length ≤ 1000000) (hm : m = L.length - k) (ho : k < L.length → o = k * 2) :
    ∃ v1 w1 v2 w2 v3 w3, (heldAppend #[24, 24] 24 #[.slice (some ⟨W.heap.size, 0, none⟩) 0 0, .slice (some ⟨gl, 0, none⟩) k c]).run Try.prog (W.alloc (.cells #[] 45)).drew = .ok v1 w1 ∧
      (heldAppend #[24, 24] 24 #[v1, .slice (some ⟨w1.heap.size, 0, none⟩) 1 1]).run Try.prog (w1.alloc (.cells #[.int .i64 x, .int .i64 y] 45)) = .ok v2 w2 ∧
      (heldAppend #[24, 24] 24 #[v2, .slice (some ⟨gl, o, none⟩) m c']).run Try.prog w2 = .ok v3 w3 ∧
      HeldC W.heap.size w3 v3 (L.take k ++ [(x, y)] ++ L.drop k) ∧ Below W.heap.size W w3 ∧ Below W.heap.size W w1 := by
  have hl : (L.take k).length = k := by rw [List.length_take]; omega
  have hl2 : (L.drop k).length = m := by rw [List.length_drop]; omega
  have hb0 : Below W.heap.size W (W.alloc (.cells #[] 45)).drew := ((Below.refl _ _).alloc (Nat.le_refl _) _).trans ((Below.refl _ _).drew)
  obtain ⟨v1, w1, r1, h1, b1, _⟩ := appendManyC2 W.heap.size _ [] gl 0 c (L.take k) (W.alloc (.cells #[] 45)).drew ((HeldC.start W W.heap.size (Nat.le_refl _)).same (fun _ _ _ => rfl) (Nat.le_refl _)) hb0.size (by simp; omega) (fun j u hu => by
    rw [Nat.zero_add]
    exact (hb0.cell (p := ⟨gl, j, none⟩) h.1).trans (h.2 j u (recs_takeC L k hu)).1)
  rw [hl] at r1
  rw [List.nil_append] at h1
  have B1 := hb0.trans b1
  obtain ⟨v2, w2, r2, h2, b2⟩ := append1litC W.heap.size v1 (L.take k) x y w1 h1 B1.size (by omega)
  obtain ⟨v3, w3, r3, h3, b3, _⟩ := appendManyC2 W.heap.size v2 (L.take k ++ [(x, y)]) gl o c' (L.drop k) w2 h2 (Nat.le_trans B1.size b2.size) (by simp; omega) (fun j u hu => by
    have hj := (List.getElem?_eq_some_iff.1 hu).1
    rw [recs_length, hl2] at hj
    rw [ho (by omega)]
    exact ((B1.trans b2).cell (p := ⟨gl, k * 2 + j, none⟩) h.1).trans (h.2 _ u (recs_dropC L k hk hu)).1)
  rw [hl2] at r3
  exact ⟨v1, w1, v2, w2, v3, w3, r1, r2, r3, h3, (B1.trans b2).trans b3, B1⟩

/-- All three ways: the literals in either order, or one behind the first append. -/
structure InsertsC (gl c k o c' m : Nat) (x y : Int) (L : List (Int × Int)) (W : World) (v3 v3' v3'' : Value) (w3 w3' w3'' : World) (v1 v1' v1'' v2 v2' v2'' : Value) (w1 w1' w1'' w2 w2' w2'' : World) : Prop where
  a1 : (heldAppend #[24, 24] 24 #[.slice (some ⟨W.heap.size, 0, none⟩) 0 0, .slice (some ⟨gl, 0, none⟩) k c]).run Try.prog (W.alloc (.cells #[] 45)).drew = .ok v1 w1
  a2 : (heldAppend #[24, 24] 24 #[v1, .slice (some ⟨w1.heap.size, 0, none⟩) 1 1]).run Try.prog (w1.alloc (.cells #[.int .i64 x, .int .i64 y] 45)) = .ok v2 w2
  a3 : (heldAppend #[24, 24] 24 #[v2, .slice (some ⟨gl, o, none⟩) m c']).run Try.prog w2 = .ok v3 w3
  b1 : (heldAppend #[24, 24] 24 #[.slice (some ⟨W.heap.size, 0, none⟩) 0 0, .slice (some ⟨gl, 0, none⟩) k c]).run Try.prog ((W.alloc (.cells #[] 45)).alloc (.cells #[.int .i64 x, .int .i64 y] 45)).drew = .ok v1' w1'
  b2 : (heldAppend #[24, 24] 24 #[v1', .slice (some ⟨W.heap.size + 1, 0, none⟩) 1 1]).run Try.prog w1' = .ok v2' w2'
  b3 : (heldAppend #[24, 24] 24 #[v2', .slice (some ⟨gl, o, none⟩) m c']).run Try.prog w2' = .ok v3' w3'
  c1 : (heldAppend #[24, 24] 24 #[.slice (some ⟨W.heap.size + 1, 0, none⟩) 0 0, .slice (some ⟨gl, 0, none⟩) k c]).run Try.prog ((W.alloc (.cells #[.int .i64 x, .int .i64 y] 45)).alloc (.cells #[] 45)).drew = .ok v1'' w1''
  c2 : (heldAppend #[24, 24] 24 #[v1'', .slice (some ⟨W.heap.size, 0, none⟩) 1 1]).run Try.prog w1'' = .ok v2'' w2''
  c3 : (heldAppend #[24, 24] 24 #[v2'', .slice (some ⟨gl, o, none⟩) m c']).run Try.prog w2'' = .ok v3'' w3''
  ha : HeldC W.heap.size w3 v3 (L.take k ++ [(x, y)] ++ L.drop k) ∧ Below W.heap.size W w3
  hb : HeldC W.heap.size w3' v3' (L.take k ++ [(x, y)] ++ L.drop k) ∧ Below W.heap.size W w3'
  hc : HeldC W.heap.size w3'' v3'' (L.take k ++ [(x, y)] ++ L.drop k) ∧ Below W.heap.size W w3''
  late : Below W.heap.size W w1

theorem insertsC (gl c k o c' m : Nat) (x y : Int) (L : List (Int × Int)) (W : World) (h : CellRow W gl (recs L)) (hk : k ≤ L.length) (hn : L.length ≤ 1000000) (hm : m = L.length - k) (ho : k < L.length → o = k * 2) :
    ∃ v3 v3' v3'' w3 w3' w3'' v1 v1' v1'' v2 v2' v2'' w1 w1' w1'' w2 w2' w2'', InsertsC gl c k o c' m x y L W v3 v3' v3'' w3 w3' w3'' v1 v1' v1'' v2 v2' v2'' w1 w1' w1'' w2 w2' w2'' := by
  obtain ⟨v1, w1, v2, w2, v3, w3, a1, a2, a3, a4, a5, a6⟩ := insertLateC gl c k o c' m x y L W h hk hn hm ho
  have hbB : Below W.heap.size W ((W.alloc (.cells #[] 45)).alloc (.cells #[.int .i64 x, .int .i64 y] 45)).drew := (((Below.refl _ _).alloc (Nat.le_refl _) _).alloc (by simp) _).trans ((Below.refl _ _).drew)
  have hbC : Below W.heap.size W ((W.alloc (.cells #[.int .i64 x, .int .i64 y] 45)).alloc (.cells #[] 45)).drew := (((Below.refl _ _).alloc (Nat.le_refl _) _).alloc (by simp) _).trans ((Below.refl _ _).drew)
  have rowB : RowIs ((W.alloc (.cells #[] 45)).alloc (.cells #[.int .i64 x, .int .i64 y] 45)).drew (W.heap.size + 1) 45 [.int .i64 x, .int .i64 y] := by
    have := heap_alloc_new (W.alloc (.cells #[] 45)) (.cells #[.int .i64 x, .int .i64 y] 45)
    rw [World.size_alloc] at this
    exact this
  have rowC0 : RowIs (W.alloc (.cells #[.int .i64 x, .int .i64 y] 45)) W.heap.size 45 [.int .i64 x, .int .i64 y] := heap_alloc_new W _
  have rowC : RowIs ((W.alloc (.cells #[.int .i64 x, .int .i64 y] 45)).alloc (.cells #[] 45)).drew W.heap.size 45 [.int .i64 x, .int .i64 y] :=
    rowC0.below (((Below.refl (W.heap.size + 1) _).alloc (by simp) _).trans ((Below.refl _ _).drew)) (by omega)
  obtain ⟨v1', w1', v2', w2', v3', w3', b1, b2, b3, b4, b5, _⟩ := insertAtC W.heap.size (W.heap.size + 1) gl c k o c' m x y L W.heap.size ((W.alloc (.cells #[] 45)).alloc (.cells #[.int .i64 x, .int .i64 y] 45)).drew
    (((HeldC.start W W.heap.size (Nat.le_refl _)).alloc (.cells #[.int .i64 x, .int .i64 y] 45)).same (fun _ _ _ => rfl) (Nat.le_refl _))
    ((rowB.cell 0).trans rfl) ((rowB.cell 1).trans rfl) (by omega) (by show W.heap.size + 1 < _; simp [World.drew]) hbB.size (h.below hbB h.1) h.1 hk hn hm ho
  obtain ⟨v1'', w1'', v2'', w2'', v3'', w3'', c1, c2, c3, c4, c5, _⟩ := insertAtC (W.heap.size + 1) W.heap.size gl c k o c' m x y L W.heap.size ((W.alloc (.cells #[.int .i64 x, .int .i64 y] 45)).alloc (.cells #[] 45)).drew
    ((by have := HeldC.start (W.alloc (.cells #[.int .i64 x, .int .i64 y] 45)) W.heap.size (by simp); simpa using this : HeldC W.heap.size ((W.alloc (.cells #[.int .i64 x, .int .i64 y] 45)).alloc (.cells #[] 45)) (.slice (some ⟨W.heap.size + 1, 0, none⟩) 0 0) []).same (fun _ _ _ => rfl) (Nat.le_refl _))
    ((rowC.cell 0).trans rfl) ((rowC.cell 1).trans rfl) (by omega) (by show W.heap.size < _; simp [World.drew]; omega) hbC.size (h.below hbC h.1) h.1 hk hn hm ho
  exact ⟨_, _, _, _, _, _, _, _, _, _, _, _, _, _, _, _, _, _, a1, a2, a3, b1, b2, b3, c1, c2, c3, ⟨a4, a5⟩, ⟨b4, hbB.trans b5⟩, ⟨c4, hbC.trans c5⟩, a6⟩

end Go.Proofs.Ytebipiehkmhaiaa
