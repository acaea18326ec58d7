/- Piles on the way: a list of rows of the call's own. -/
import Derived.Test.YtjlldjekjnlcaaaLisP
import Derived.Test.YtjlldjekjnlcaaaRetSSE
import Derived.Test.YtjlldjekjnlcaaaSmallS
import Derived.Test.YtjlldjekjnlcaaaOwnFlat
namespace Go.Proofs.Ytjlldjekjnlcaaa
open Go.RowKit P Iv
set_option linter.unusedVariables false

/-- Piles so far. -/
structure PpAt (base : World) (w : World) (v : Value) (X : List ZRow) (M : List (List Int)) : Prop where
  held : HeldY base.heap.size w v X
  map : X.map ZRow.L = M
  bel : Below base.heap.size base w
  nn : ∃ g c, v = .slice (some ⟨g, 0, none⟩) X.length c
theorem PpAt.len {B w : World} {v : Value} {X : List ZRow} {M : List (List Int)} (h : PpAt B w v X M) : X.length = M.length := by rw [← h.map]; simp
theorem PpAt.row {B w : World} {v : Value} {X : List ZRow} {M : List (List Int)} (h : PpAt B w v X M) {k : Nat} {x : ZRow} (hx : X[k]? = some x) : M[k]? = some x.L := by rw [← h.map, List.getElem?_map, hx]; rfl
theorem flat_len : ∀ {M : List (List Int)}, (∀ p ∈ M, p ≠ []) → M.length ≤ M.flatten.length ∧ ∀ p ∈ M, p.length ≤ M.flatten.length
  | [], _ => ⟨by simp, by simp⟩
  | p :: M, h => by
    obtain ⟨h1, h2⟩ := flat_len (M := M) (fun q hq => h q (List.mem_cons_of_mem _ hq))
    have hp := List.length_pos_iff.2 (h p List.mem_cons_self)
    rw [List.flatten_cons, List.length_append, List.length_cons]
    refine ⟨by omega, fun q hq => ?_⟩
    rcases List.mem_cons.1 hq with rfl | hq
    · omega
    · have := h2 q hq; omega
theorem deal_small {l : List Int} {k : Nat} (hk : k ≤ l.length) : (deal (l.take k)).length ≤ k ∧ ∀ p ∈ deal (l.take k), p.length ≤ k := by
  have h := flat_len (M := deal (l.take k)) (fun p hp => ((deal_good (l.take k)).2 p hp).1)
  rw [deal_total, List.length_take, Nat.min_eq_left hk] at h
  exact h

/-- A row of one number of the call's own. -/
theorem HeldI.one (base : Nat) (w : World) (x : Int) (hb : base ≤ w.heap.size) : Held base (w.alloc (.cells #[.int .i64 x] 3)) (.slice (some ⟨w.heap.size, 0, none⟩) 1 1) [x] :=
  ⟨World.ownsRow_lit w #[.int .i64 x] 1 hb (by decide) rfl, _, _, rfl⟩
/-- A new pile. -/
theorem PpAt.fresh {B w : World} {g c : Nat} {X : List ZRow} {M : List (List Int)} (h : PpAt B w (.slice (some ⟨g, 0, none⟩) X.length c) X M) (e : Int) (hs : X.length ≤ 64) :
    ∃ v' w', (heldAppend #[36, 36] 36 #[.slice (some ⟨g, 0, none⟩) X.length c, .slice (some ⟨w.heap.size + 1, 0, none⟩) 1 1]).run Try.prog ((w.alloc (.cells #[.int .i64 e] 3)).alloc (.cells #[.slice (some ⟨w.heap.size, 0, none⟩) 1 1] 24)) = .ok v' w' ∧
      PpAt B w' v' (X ++ [⟨w.heap.size, 1, [e]⟩]) (M ++ [[e]]) := by
  have hsz : (w.alloc (.cells #[.int .i64 e] 3)).heap.size = w.heap.size + 1 := by simp
  have hy : HeldY B.heap.size (w.alloc (.cells #[.int .i64 e] 3)) (.slice (some ⟨g, 0, none⟩) X.length c) X := h.held.below ((Below.refl _ _).alloc (Nat.le_refl _) _)
  have ho := HeldI.one B.heap.size w e h.bel.size
  obtain ⟨v', w', h1, h2, h3, _, _⟩ := appendRowY B.heap.size _ X ⟨w.heap.size, 1, [e]⟩ _ hy (by rw [hsz]; have := h.bel.size; omega) ho (fun hB => by
    have := (h.held.r.lt hB).2
    simp at this) (by omega)
  rw [hsz] at h1
  refine ⟨v', w', h1, h2, by rw [List.map_append, h.map]; rfl, (h.bel.alloc h.bel.size _).trans h3, ?_⟩
  rcases h2.r.nn with ⟨_, e0⟩ | ⟨g', c', e1, _⟩
  · simp at e0
  · exact ⟨g', c', e1⟩
/-- Onto a pile. -/
theorem PpAt.onto {B w : World} {g c k : Nat} {X : List ZRow} {M : List (List Int)} {x : ZRow} (h : PpAt B w (.slice (some ⟨g, 0, none⟩) X.length c) X M) (hx : X[k]? = some x) (e : Int) (hs : x.L.length ≤ 64) :
    ∃ g' c' w1, (heldAppend #[24, 24] 24 #[.slice (some ⟨x.g, 0, none⟩) x.L.length x.c, .slice (some ⟨w.heap.size, 0, none⟩) 1 1]).run Try.prog (w.alloc (.cells #[.int .i64 e] 3)) = .ok (.slice (some ⟨g', 0, none⟩) (x.L.length + 1) c') w1 ∧
      PpAt B (w1.setCell ⟨g, k, none⟩ (.slice (some ⟨g', 0, none⟩) (x.L.length + 1) c')) (.slice (some ⟨g, 0, none⟩) X.length c) (X.set k ⟨g', c', x.L ++ [e]⟩) (M.set k (x.L ++ [e])) ∧
      w1.cell? ⟨g, k, none⟩ = some (.slice (some ⟨x.g, 0, none⟩) x.L.length x.c) ∧ w1.frozen? ⟨g, k, none⟩ = false ∧ g < w1.heap.size := by
  have hgl := (h.held.r.lt (.inl (by simp [Value.ownBlock]) : BlkZ (.slice (some ⟨g, 0, none⟩) X.length c) X g)).2
  obtain ⟨g', c', w1, h1, h2, h3, h4, h5, _⟩ := appendInZ B.heap.size g c k X x e w h.held hx h.bel.size (by omega)
  refine ⟨g', c', w1, h1, ⟨h2, ?_, h.bel.trans h3, g, c, by rw [List.length_set]⟩, h4, h5, ?_⟩
  · rw [List.map_set, h.map]
  · have hs1 := h3.size
    simp at hs1
    omega

theorem PpAt.drewN {B w : World} {v : Value} {X : List ZRow} {M : List (List Int)} (h : PpAt B w v X M) (q : Nat) : PpAt B (w.drewN q) v X M :=
  ⟨h.held.same (fun _ _ _ _ => rfl) (Nat.le_refl _), h.map, h.bel.trans ⟨rfl, rfl, rfl, Nat.le_refl _, fun _ _ => rfl⟩, h.nn⟩
theorem PpAt.drew {B w : World} {v : Value} {X : List ZRow} {M : List (List Int)} (h : PpAt B w v X M) : PpAt B w.drew v X M :=
  ⟨h.held.same (fun _ _ _ _ => rfl) (Nat.le_refl _), h.map, h.bel.drew, h.nn⟩
/-- A new pile without an element. -/
theorem PpAt.empty {B w : World} {g c : Nat} {X : List ZRow} {M : List (List Int)} (h : PpAt B w (.slice (some ⟨g, 0, none⟩) X.length c) X M) (hs : X.length ≤ 64) :
    ∃ v' w', (heldAppend #[36, 36] 36 #[.slice (some ⟨g, 0, none⟩) X.length c, .slice (some ⟨w.heap.size + 1, 0, none⟩) 1 1]).run Try.prog ((w.alloc (.cells #[] 3)).alloc (.cells #[.slice (some ⟨w.heap.size, 0, none⟩) 0 0] 24)) = .ok v' w' ∧
      PpAt B w' v' (X ++ [⟨w.heap.size, 0, []⟩]) (M ++ [[]]) := by
  have hsz : (w.alloc (.cells #[] 3)).heap.size = w.heap.size + 1 := by simp
  have hy : HeldY B.heap.size (w.alloc (.cells #[] 3)) (.slice (some ⟨g, 0, none⟩) X.length c) X := h.held.below ((Below.refl _ _).alloc (Nat.le_refl _) _)
  have ho := Held.start w B.heap.size h.bel.size
  obtain ⟨v', w', h1, h2, h3, _, _⟩ := appendRowY B.heap.size _ X ⟨w.heap.size, 0, []⟩ _ hy (by rw [hsz]; have := h.bel.size; omega) ho (fun hB => by
    have := (h.held.r.lt hB).2
    simp at this) (by omega)
  rw [hsz] at h1
  refine ⟨v', w', h1, h2, by rw [List.map_append, h.map]; rfl, (h.bel.alloc h.bel.size _).trans h3, ?_⟩
  rcases h2.r.nn with ⟨_, e0⟩ | ⟨g', c', e1, _⟩
  · simp at e0
  · exact ⟨g', c', e1⟩
/-- Where a row lies. -/
theorem PpAt.cell {B w : World} {g c k : Nat} {X : List ZRow} {M : List (List Int)} {x : ZRow} (h : PpAt B w (.slice (some ⟨g, 0, none⟩) X.length c) X M) (hx : X[k]? = some x) (hs : X.length ≤ 64) :
    w.cell? ⟨g, k, none⟩ = some (.slice (some ⟨x.g, 0, none⟩) x.L.length x.c) ∧ g < w.heap.size ∧ x.g < w.heap.size := by
  refine ⟨?_, (h.held.r.lt (.inl (by simp [Value.ownBlock]) : BlkZ (.slice (some ⟨g, 0, none⟩) X.length c) X g)).2, (h.held.r.rows x (List.mem_of_getElem? hx)).2.2.1⟩
  have hkl := (List.getElem?_eq_some_iff.1 hx).1
  have h1 := h.held.r.own.cellAt k (by omega)
  rw [h1, List.getElem?_map, hx]; rfl
theorem PpAt.top {B w : World} {v : Value} {n1 k : Nat} {X : List ZRow} {M : List (List Int)} {x : ZRow} (h : PpAt B w v X M) (hx : X[k]? = some x) (hn : x.L.length = n1 + 1) :
    w.cell? ⟨x.g, n1, none⟩ = some (.int .i64 (x.L.getLastD 0)) := by
  obtain ⟨_, _, hr3⟩ := h.held.r.rows x (List.mem_of_getElem? hx)
  have h1 : x.L[n1]? = some (x.L.getLastD 0) := by
    rw [List.getLastD_eq_getLast?, List.getLast?_eq_getElem?, hn, Nat.add_sub_cancel, List.getElem?_eq_getElem (by omega)]; rfl
  exact (hr3.2 _ _ (ints_at h1)).1

theorem ppF_small (l : List Int) : SmallSS (ppF l).1 := by
  by_cases h : OkL l
  · rw [ppF_yes h]
    have h1 := deal_small (l := l) (k := l.length) (Nat.le_refl _)
    rw [List.take_length] at h1
    have h2 := h.1
    have h3 := deal_total l
    refine SmallSS.of (by simp only; omega) ?_
    simp only
    rw [← List.length_flatten, h3]; omega
  · rw [ppF_no h]
    exact SmallSS.of (by simp) (by simp)

end Go.Proofs.Ytjlldjekjnlcaaa
