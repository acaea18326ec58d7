/- 'append(append(append([]int{}, l[:k]...), x), l[k:]...)': a number put into a list, in whatever order its parts are laid. -/
import Derived.Test.YtjlldjekjnlcaaaRetI
namespace Go.Proofs.Ytjlldjekjnlcaaa
open Go.RowKit

/-- 'append(l, list...)', told of every block. -/
theorem appendMany2 (base : Nat) (v : Value) (L : List Int) (b o c : Nat) (l : List Int) (w : World) (h : Held base w v L) (hb : base ≤ w.heap.size) (hn : L.length + l.length ≤ 2097152)
    (hl : ∀ (j : Nat) u, (ints l)[j]? = some u → w.cell? ⟨b, o + j, none⟩ = some u) :
    ∃ v' w', (heldAppend #[24, 24] 24 #[v, .slice (some ⟨b, o, none⟩) l.length c]).run Try.prog w = .ok v' w' ∧
      Held base w' v' (L ++ l) ∧ Below base w w' ∧ ∀ k, k < w.heap.size → (∀ g n c, v = .slice (some ⟨g, 0, none⟩) n c → k ≠ g) → w'.heap[k]? = w.heap[k]? := by
  obtain ⟨i0, hi, hz0, hz1, hz2⟩ := info_parts infoIntH
  obtain ⟨h, g, cv, rfl⟩ := h
  obtain ⟨v', w', hrun, hown, hgrow, hnil⟩ := run_append_own (P := Try.prog) (w := w) base 24 24 3 i0 (.int .i64 0) 1 8 Try.underlying24 hi hz0 hz1 hz2 rfl (by decide)
    _ L.length (ints L) h ⟨b, o, none⟩ l.length c (ints l) (by rw [ints_length, Nat.mul_one]) (fun j u hu => by
      have e : (⟨b, o, none⟩ : Addr).add j = ⟨b, o + j, none⟩ := by
        unfold Addr.add; split
        · rename_i h; subst h; rfl
        · rfl
      rw [e]; exact hl j u hu) (ints_one l) (by unfold maxLen; omega) (by omega) (by omega)
  rw [← ints_append L l, ← show (L ++ l).length = L.length + l.length by simp] at hown
  refine ⟨v', w', hrun, ⟨hown, ?_⟩, (Below.refl base w).grown hgrow (by omega) (fun j e => (h.lt j e).1), fun k hk hne => hgrow.block k hk (fun e => hne g L.length cv rfl (by simpa [Value.ownBlock] using e))⟩
  rcases hown.2 with ⟨e, hz⟩ | ⟨g', cap, cur, e, _⟩
  · have := (hnil.1 e).1
    simp at this
  · exact ⟨g', cap, e⟩

/-- The three appends, the literals laid ahead of them: e the empty one, xb the one of x. -/
theorem insertAt (e xb gl c k o c' m : Nat) (x : Int) (L : List Int) (base : Nat) (V : World) (hE : Held base V (.slice (some ⟨e, 0, none⟩) 0 0) []) (hX : V.cell? ⟨xb, 0, none⟩ = some (.int .i64 x)) (hxe : xb ≠ e) (hxV : xb < V.heap.size)
    (hbV : base ≤ V.heap.size) (h : CellRow V gl (ints L)) (hgl : gl < base) (hk : k ≤ L.length) (hn : L.length ≤ 1000000) (hm : m = L.length - k) (ho : k < L.length → o = k) :
    ∃ v1 w1 v2 w2 v3 w3, (heldAppend #[24, 24] 24 #[.slice (some ⟨e, 0, none⟩) 0 0, .slice (some ⟨gl, 0, none⟩) k c]).run Try.prog V = .ok v1 w1 ∧
      (heldAppend #[24, 24] 24 #[v1, .slice (some ⟨xb, 0, none⟩) 1 1]).run Try.prog w1 = .ok v2 w2 ∧
      (heldAppend #[24, 24] 24 #[v2, .slice (some ⟨gl, o, none⟩) m c']).run Try.prog w2 = .ok v3 w3 ∧
      Held base w3 v3 (L.take k ++ [x] ++ L.drop k) ∧ Below base V w3 := by
  have hl : (L.take k).length = k := by rw [List.length_take]; omega
  have hl2 : (L.drop k).length = m := by rw [List.length_drop]; omega
  obtain ⟨v1, w1, r1, h1, b1, k1⟩ := appendMany2 base _ [] gl 0 c (L.take k) V hE hbV (by simp; omega) (fun j u hu => by
    rw [Nat.zero_add]
    have hj := (List.getElem?_eq_some_iff.1 hu).1
    rw [ints_length, hl] at hj
    have hu2 : (ints L)[j]? = some u := by unfold ints at hu ⊢; rw [List.getElem?_map, List.getElem?_take_of_lt hj] at hu; rw [List.getElem?_map]; exact hu
    exact (h.2 j u hu2).1)
  rw [hl] at r1
  rw [List.nil_append] at h1
  have hX1 : w1.cell? ⟨xb, 0, none⟩ = some (.int .i64 x) := by
    rw [World.cell?_of_block (w := V) (k1 xb hxV (fun g n c e' => by simp at e'; omega))]; exact hX
  obtain ⟨v2, w2, r2, h2, b2, _⟩ := appendMany2 base v1 (L.take k) xb 0 1 [x] w1 h1 (Nat.le_trans hbV b1.size) (by simp; omega) (fun j u hu => by
    cases j with
    | zero => simp [ints] at hu; subst hu; exact hX1
    | succ j => simp [ints] at hu)
  have b12 := b1.trans b2
  obtain ⟨v3, w3, r3, h3, b3, _⟩ := appendMany2 base v2 (L.take k ++ [x]) gl o c' (L.drop k) w2 h2 (Nat.le_trans hbV b12.size) (by simp; omega) (fun j u hu => by
    have hj := (List.getElem?_eq_some_iff.1 hu).1
    rw [ints_length, hl2] at hj
    rw [ho (by omega)]
    have hu2 : (ints L)[k + j]? = some u := by unfold ints at hu ⊢; rw [List.getElem?_map, List.getElem?_drop] at hu; rw [List.getElem?_map]; exact hu
    exact (b12.cell (p := ⟨gl, k + j, none⟩) hgl).trans (h.2 _ u hu2).1)
  rw [hl2] at r3
  exact ⟨v1, w1, v2, w2, v3, w3, r1, by simpa using r2, r3, h3, b12.trans b3⟩

/-- And the one of x laid behind the first append. -/
theorem insertLate (gl c k o c' m : Nat) (x : Int) (L : List Int) (W : World) (h : CellRow W gl (ints L)) (hk : k ≤ L.length) (hn : L.length ≤ 1000000) (hm : m = L.length - k) (ho : k < L.length → o = k) :
    ∃ v1 w1 v2 w2 v3 w3, (heldAppend #[24, 24] 24 #[.slice (some ⟨W.heap.size, 0, none⟩) 0 0, .slice (some ⟨gl, 0, none⟩) k c]).run Try.prog (W.alloc (.cells #[] 3)).drew = .ok v1 w1 ∧
      (heldAppend #[24, 24] 24 #[v1, .slice (some ⟨w1.heap.size, 0, none⟩) 1 1]).run Try.prog (w1.alloc (.cells #[.int .i64 x] 3)) = .ok v2 w2 ∧
      (heldAppend #[24, 24] 24 #[v2, .slice (some ⟨gl, o, none⟩) m c']).run Try.prog w2 = .ok v3 w3 ∧
      Held W.heap.size w3 v3 (L.take k ++ [x] ++ L.drop k) ∧ Below W.heap.size W w3 := by
  obtain ⟨v1, w1, r1, h1, b1⟩ := copyFront gl c k L W h hk (by omega)
  obtain ⟨v2, w2, r2, h2, b2⟩ := appendOne W.heap.size v1 (L.take k) x w1 h1 b1.size (by rw [List.length_take]; omega)
  obtain ⟨v3, w3, r3, h3, b3⟩ := copyBack W.heap.size gl o c' k m v2 (L.take k ++ [x]) L W w2 h h2 (Nat.le_refl _) (Nat.le_trans b1.size b2.size) (b1.trans b2) hm ho (by simp; omega)
  exact ⟨v1, w1, v2, w2, v3, w3, r1, r2, r3, h3, (b1.trans b2).trans b3⟩

/-- The same, and what the first append leaves. -/
theorem insertLate2 (gl c k o c' m : Nat) (x : Int) (L : List Int) (W : World) (h : CellRow W gl (ints L)) (hk : k ≤ L.length) (hn : L.length ≤ 1000000) (hm : m = L.length - k) (ho : k < L.length → o = k) :
    ∃ v1 w1 v2 w2 v3 w3, (heldAppend #[24, 24] 24 #[.slice (some ⟨W.heap.size, 0, none⟩) 0 0, .slice (some ⟨gl, 0, none⟩) k c]).run Try.prog (W.alloc (.cells #[] 3)).drew = .ok v1 w1 ∧
      (heldAppend #[24, 24] 24 #[v1, .slice (some ⟨w1.heap.size, 0, none⟩) 1 1]).run Try.prog (w1.alloc (.cells #[.int .i64 x] 3)) = .ok v2 w2 ∧
      (heldAppend #[24, 24] 24 #[v2, .slice (some ⟨gl, o, none⟩) m c']).run Try.prog w2 = .ok v3 w3 ∧
      Held W.heap.size w3 v3 (L.take k ++ [x] ++ L.drop k) ∧ Below W.heap.size W w3 ∧ Below W.heap.size W w1 := by
  obtain ⟨v1, w1, r1, h1, b1⟩ := copyFront gl c k L W h hk (by omega)
  obtain ⟨v2, w2, r2, h2, b2⟩ := appendOne W.heap.size v1 (L.take k) x w1 h1 b1.size (by rw [List.length_take]; omega)
  obtain ⟨v3, w3, r3, h3, b3⟩ := copyBack W.heap.size gl o c' k m v2 (L.take k ++ [x]) L W w2 h h2 (Nat.le_refl _) (Nat.le_trans b1.size b2.size) (b1.trans b2) hm ho (by simp; omega)
  exact ⟨v1, w1, v2, w2, v3, w3, r1, r2, r3, h3, (b1.trans b2).trans b3, b1⟩

/-- All three ways: the literals in either order, or one behind the first append. -/
structure Inserts (gl c k o c' m : Nat) (x : Int) (L : List Int) (W : World) (v3 v3' v3'' : Value) (w3 w3' w3'' : World) (v1 v1' v1'' v2 v2' v2'' : Value) (w1 w1' w1'' w2 w2' w2'' : World) : Prop where
  a1 : (heldAppend #[24, 24] 24 #[.slice (some ⟨W.heap.size, 0, none⟩) 0 0, .slice (some ⟨gl, 0, none⟩) k c]).run Try.prog (W.alloc (.cells #[] 3)).drew = .ok v1 w1
  a2 : (heldAppend #[24, 24] 24 #[v1, .slice (some ⟨w1.heap.size, 0, none⟩) 1 1]).run Try.prog (w1.alloc (.cells #[.int .i64 x] 3)) = .ok v2 w2
  a3 : (heldAppend #[24, 24] 24 #[v2, .slice (some ⟨gl, o, none⟩) m c']).run Try.prog w2 = .ok v3 w3
  b1 : (heldAppend #[24, 24] 24 #[.slice (some ⟨W.heap.size, 0, none⟩) 0 0, .slice (some ⟨gl, 0, none⟩) k c]).run Try.prog ((W.alloc (.cells #[] 3)).alloc (.cells #[.int .i64 x] 3)).drew = .ok v1' w1'
  b2 : (heldAppend #[24, 24] 24 #[v1', .slice (some ⟨W.heap.size + 1, 0, none⟩) 1 1]).run Try.prog w1' = .ok v2' w2'
  b3 : (heldAppend #[24, 24] 24 #[v2', .slice (some ⟨gl, o, none⟩) m c']).run Try.prog w2' = .ok v3' w3'
  c1 : (heldAppend #[24, 24] 24 #[.slice (some ⟨W.heap.size + 1, 0, none⟩) 0 0, .slice (some ⟨gl, 0, none⟩) k c]).run Try.prog ((W.alloc (.cells #[.int .i64 x] 3)).alloc (.cells #[] 3)).drew = .ok v1'' w1''
  c2 : (heldAppend #[24, 24] 24 #[v1'', .slice (some ⟨W.heap.size, 0, none⟩) 1 1]).run Try.prog w1'' = .ok v2'' w2''
  c3 : (heldAppend #[24, 24] 24 #[v2'', .slice (some ⟨gl, o, none⟩) m c']).run Try.prog w2'' = .ok v3'' w3''
  ha : Held W.heap.size w3 v3 (L.take k ++ [x] ++ L.drop k) ∧ Below W.heap.size W w3
  hb : Held W.heap.size w3' v3' (L.take k ++ [x] ++ L.drop k) ∧ Below W.heap.size W w3'
  hc : Held W.heap.size w3'' v3'' (L.take k ++ [x] ++ L.drop k) ∧ Below W.heap.size W w3''

theorem inserts (gl c k o c' m : Nat) (x : Int) (L : List Int) (W : World) (h : CellRow W gl (ints L)) (hk : k ≤ L.length) (hn : L.length ≤ 1000000) (hm : m = L.length - k) (ho : k < L.length → o = k) :
    ∃ v3 v3' v3'' w3 w3' w3'' v1 v1' v1'' v2 v2' v2'' w1 w1' w1'' w2 w2' w2'', Inserts gl c k o c' m x L W v3 v3' v3'' w3 w3' w3'' v1 v1' v1'' v2 v2' v2'' w1 w1' w1'' w2 w2' w2'' := by
  obtain ⟨v1, w1, v2, w2, v3, w3, a1, a2, a3, a4, a5⟩ := insertLate gl c k o c' m x L W h hk hn hm ho
  have hbB : Below W.heap.size W ((W.alloc (.cells #[] 3)).alloc (.cells #[.int .i64 x] 3)).drew := (((Below.refl _ _).alloc (Nat.le_refl _) _).alloc (by simp) _).trans ((Below.refl _ _).drew)
  have hbC : Below W.heap.size W ((W.alloc (.cells #[.int .i64 x] 3)).alloc (.cells #[] 3)).drew := (((Below.refl _ _).alloc (Nat.le_refl _) _).alloc (by simp) _).trans ((Below.refl _ _).drew)
  obtain ⟨v1', w1', v2', w2', v3', w3', b1, b2, b3, b4, b5⟩ := insertAt W.heap.size (W.heap.size + 1) gl c k o c' m x L W.heap.size ((W.alloc (.cells #[] 3)).alloc (.cells #[.int .i64 x] 3)).drew
    (((Held.start W W.heap.size (Nat.le_refl _)).alloc (.cells #[.int .i64 x] 3)).same (fun _ _ _ => rfl) (Nat.le_refl _))
    (by simp) (by omega) (by show W.heap.size + 1 < _; simp [World.drew]) hbB.size (h.below hbB h.1) h.1 hk hn hm ho
  obtain ⟨v1'', w1'', v2'', w2'', v3'', w3'', c1, c2, c3, c4, c5⟩ := insertAt (W.heap.size + 1) W.heap.size gl c k o c' m x L W.heap.size ((W.alloc (.cells #[.int .i64 x] 3)).alloc (.cells #[] 3)).drew
    ((by have := Held.start (W.alloc (.cells #[.int .i64 x] 3)) W.heap.size (by simp); simpa using this : Held W.heap.size ((W.alloc (.cells #[.int .i64 x] 3)).alloc (.cells #[] 3)) (.slice (some ⟨W.heap.size + 1, 0, none⟩) 0 0) []).same (fun _ _ _ => rfl) (Nat.le_refl _))
    (by
      have e2 := ((Below.refl (W.heap.size + 1) (W.alloc (.cells #[.int .i64 x] 3))).alloc (by simp) (.cells #[] 3)).cell (p := ⟨W.heap.size, 0, none⟩) (by show W.heap.size < W.heap.size + 1; omega)
      have e3 : (W.alloc (.cells #[.int .i64 x] 3)).cell? ⟨W.heap.size, 0, none⟩ = some (.int .i64 x) := by simp
      exact e2.trans e3) (by omega) (by show W.heap.size < _; simp [World.drew]; omega) hbC.size (h.below hbC h.1) h.1 hk hn hm ho
  exact ⟨_, _, _, _, _, _, _, _, _, _, _, _, _, _, _, _, _, _, a1, a2, a3, b1, b2, b3, c1, c2, c3, ⟨a4, a5⟩, ⟨b4, hbB.trans b5⟩, ⟨c4, hbC.trans c5⟩⟩

/-- The same, and what the first append of the late way leaves. -/
theorem inserts2 (gl c k o c' m : Nat) (x : Int) (L : List Int) (W : World) (h : CellRow W gl (ints L)) (hk : k ≤ L.length) (hn : L.length ≤ 1000000) (hm : m = L.length - k) (ho : k < L.length → o = k) :
    ∃ v3 v3' v3'' w3 w3' w3'' v1 v1' v1'' v2 v2' v2'' w1 w1' w1'' w2 w2' w2'', Inserts gl c k o c' m x L W v3 v3' v3'' w3 w3' w3'' v1 v1' v1'' v2 v2' v2'' w1 w1' w1'' w2 w2' w2'' ∧ Below W.heap.size W w1 := by
  obtain ⟨v1, w1, v2, w2, v3, w3, a1, a2, a3, a4, a5, a6⟩ := insertLate2 gl c k o c' m x L W h hk hn hm ho
  have hbB : Below W.heap.size W ((W.alloc (.cells #[] 3)).alloc (.cells #[.int .i64 x] 3)).drew := (((Below.refl _ _).alloc (Nat.le_refl _) _).alloc (by simp) _).trans ((Below.refl _ _).drew)
  have hbC : Below W.heap.size W ((W.alloc (.cells #[.int .i64 x] 3)).alloc (.cells #[] 3)).drew := (((Below.refl _ _).alloc (Nat.le_refl _) _).alloc (by simp) _).trans ((Below.refl _ _).drew)
  obtain ⟨v1', w1', v2', w2', v3', w3', b1, b2, b3, b4, b5⟩ := insertAt W.heap.size (W.heap.size + 1) gl c k o c' m x L W.heap.size ((W.alloc (.cells #[] 3)).alloc (.cells #[.int .i64 x] 3)).drew
    (((Held.start W W.heap.size (Nat.le_refl _)).alloc (.cells #[.int .i64 x] 3)).same (fun _ _ _ => rfl) (Nat.le_refl _))
    (by simp) (by omega) (by show W.heap.size + 1 < _; simp [World.drew]) hbB.size (h.below hbB h.1) h.1 hk hn hm ho
  obtain ⟨v1'', w1'', v2'', w2'', v3'', w3'', c1, c2, c3, c4, c5⟩ := insertAt (W.heap.size + 1) W.heap.size gl c k o c' m x L W.heap.size ((W.alloc (.cells #[.int .i64 x] 3)).alloc (.cells #[] 3)).drew
    ((by have := Held.start (W.alloc (.cells #[.int .i64 x] 3)) W.heap.size (by simp); simpa using this : Held W.heap.size ((W.alloc (.cells #[.int .i64 x] 3)).alloc (.cells #[] 3)) (.slice (some ⟨W.heap.size + 1, 0, none⟩) 0 0) []).same (fun _ _ _ => rfl) (Nat.le_refl _))
    (by
      have e2 := ((Below.refl (W.heap.size + 1) (W.alloc (.cells #[.int .i64 x] 3))).alloc (by simp) (.cells #[] 3)).cell (p := ⟨W.heap.size, 0, none⟩) (by show W.heap.size < W.heap.size + 1; omega)
      have e3 : (W.alloc (.cells #[.int .i64 x] 3)).cell? ⟨W.heap.size, 0, none⟩ = some (.int .i64 x) := by simp
      exact e2.trans e3) (by omega) (by show W.heap.size < _; simp [World.drew]; omega) hbC.size (h.below hbC h.1) h.1 hk hn hm ho
  exact ⟨_, _, _, _, _, _, _, _, _, _, _, _, _, _, _, _, _, _, ⟨a1, a2, a3, b1, b2, b3, c1, c2, c3, ⟨a4, a5⟩, ⟨b4, hbB.trans b5⟩, ⟨c4, hbC.trans c5⟩⟩, a6⟩

end Go.Proofs.Ytjlldjekjnlcaaa
