/- Lists of rows of whole numbers that grow by append, from none on. -/
import Derived.Test.YthmcjmjkmmbepaaCRow
import Derived.Test.YthmcjmjkmmbepaaNest
namespace Go.Proofs.Ythmcjmjkmmbepaa
open Go.RowKit P
set_option linter.unusedVariables false

/-- A row handed out: its block, its capacity, its elements. -/
structure ZRow where
  g : Nat
  c : Nat
  L : List Int

/-- A row's value. -/
def slz (x : ZRow) : Value := .slice (some ⟨x.g, 0, none⟩) x.L.length x.c
/-- The blocks of a list of rows. -/
def BlkZ (v : Value) (X : List ZRow) (k : Nat) : Prop := v.ownBlock = some k ∨ ∃ x ∈ X, k = x.g

/-- v is a list of rows of the call's own, above base, and not nil. -/
structure HeldZ (base : Nat) (w : World) (v : Value) (X : List ZRow) : Prop where
  own : w.ownsRow base 34 1 v X.length (X.map slz)
  nn : (v = .slice none 0 0 ∧ X = []) ∨ ∃ g c, v = .slice (some ⟨g, 0, none⟩) X.length c ∧ ∀ x ∈ X, x.g ≠ g
  rows : ∀ x ∈ X, base ≤ x.g ∧ x.L.length ≤ x.c ∧ CellRow w x.g (ints x.L)
  apart : (X.map ZRow.g).Nodup

theorem infoIntsZ : (Try.prog.info? 34).map (fun i => (i.zero, i.size, i.bytes)) = some (some (.slice none 0 0), 1, 24) := by kernel_rfl

theorem HeldZ.start (w : World) (base : Nat) (hb : base ≤ w.heap.size) : HeldZ base (w.alloc (.cells #[] 34)) (.slice (some ⟨w.heap.size, 0, none⟩) 0 0) [] := by
  have h : (w.alloc (.cells #[] 34)).ownsRow w.heap.size 34 1 (.slice (some ⟨w.heap.size, 0, none⟩) 0 0) 0 [] := World.ownsRow_made w #[] 0 (Nat.le_refl _) (by decide) rfl
  refine ⟨⟨h.1, ?_⟩, .inr ⟨_, _, rfl, by simp⟩, by simp, by simp⟩
  rcases h.2 with hn | ⟨j, cap, cur, e, h1, rest⟩
  · exact .inl hn
  · exact .inr ⟨j, cap, cur, e, by omega, rest⟩

theorem HeldZ.lt {base : Nat} {w : World} {v : Value} {X : List ZRow} (h : HeldZ base w v X) {k : Nat} (hk : BlkZ v X k) : base ≤ k ∧ k < w.heap.size := by
  rcases hk with hk | ⟨x, hx, rfl⟩
  · rcases h.nn with ⟨rfl, _⟩ | ⟨g, c, rfl, _⟩
    · simp [Value.ownBlock] at hk
    obtain ⟨h1, _, h3⟩ := CellRow.of_own h.own
    obtain rfl : g = k := by simpa [Value.ownBlock] using hk
    exact ⟨h1, h3.1⟩
  · obtain ⟨h1, _, h3⟩ := h.rows x hx
    exact ⟨h1, h3.1⟩

theorem HeldZ.same {base : Nat} {w w' : World} {v : Value} {X : List ZRow} (h : HeldZ base w v X) (hb : ∀ k, k < w.heap.size → base ≤ k → BlkZ v X k → w'.heap[k]? = w.heap[k]?) (hs : w.heap.size ≤ w'.heap.size) : HeldZ base w' v X := by
  refine ⟨⟨h.own.1, ?_⟩, h.nn, fun x hx => ?_, h.apart⟩
  · rcases h.own.2 with hn | ⟨j, cap, cur, e, hj, hg, rest⟩
    · exact .inl hn
    · have hB : BlkZ v X j := .inl (by rw [e]; simp [Value.ownBlock])
      exact .inr ⟨j, cap, cur, e, hj, (hb j (h.lt hB).2 hj hB).trans hg, rest⟩
  · obtain ⟨h1, h2, h3⟩ := h.rows x hx
    exact ⟨h1, h2, h3.same (hb _ h3.1 h1 (.inr ⟨x, hx, rfl⟩)) hs⟩
theorem HeldZ.below {base : Nat} {w w' : World} {v : Value} {X : List ZRow} (h : HeldZ base w v X) (hb : Below w.heap.size w w') : HeldZ base w' v X := h.same (fun k hk _ _ => hb.block k hk) hb.size
theorem HeldZ.but {base V : Nat} {w w' : World} {v : Value} {X : List ZRow} (h : HeldZ base w v X) (hb : But V w w') (hV : ¬ BlkZ v X V) : HeldZ base w' v X := h.same (fun k hk _ hB => hb.block k hk (fun e => hV (e ▸ hB))) hb.size

theorem HeldZ.lower {base base' : Nat} {w : World} {v : Value} {X : List ZRow} (h : HeldZ base w v X) (hB : base' ≤ base) : HeldZ base' w v X := by
  refine ⟨⟨h.own.1, ?_⟩, h.nn, fun x hx => ?_, h.apart⟩
  · rcases h.own.2 with hn | ⟨j, cap, cur, e, hj, rest⟩
    · exact .inl hn
    · exact .inr ⟨j, cap, cur, e, by omega, rest⟩
  · obtain ⟨h1, h2⟩ := h.rows x hx
    exact ⟨by omega, h2⟩

/-- 'append(l, row)' of one row. -/
theorem appendZ (base : Nat) (v : Value) (X : List ZRow) (x : ZRow) (w : World) (h : HeldZ base w v X) (hb : base ≤ w.heap.size) (hx1 : base ≤ x.g) (hx2 : x.L.length ≤ x.c) (hx3 : CellRow w x.g (ints x.L)) (hx4 : ¬ BlkZ v X x.g) (hn : X.length ≤ 1048576) :
    ∃ v' w', (heldAppend #[45, 45] 45 #[v, .slice (some ⟨w.heap.size, 0, none⟩) 1 1]).run Try.prog (w.alloc (.cells #[slz x] 34)) = .ok v' w' ∧
      HeldZ base w' v' (X ++ [x]) ∧ Below base w w' ∧ (∀ k, k < w.heap.size → v.ownBlock ≠ some k → w'.heap[k]? = w.heap[k]?) ∧ (∀ k, v'.ownBlock = some k → v.ownBlock = some k ∨ w.heap.size ≤ k) := by
  obtain ⟨i0, hi, hz0, hz1, hz2⟩ := info_parts infoIntsZ
  obtain ⟨v', w', hrun, hown, hgrow, hnil, hblk⟩ := run_append_own_at (P := Try.prog) (w := w.alloc (.cells #[slz x] 34)) base 45 45 34 i0 (.slice none 0 0) 1 24 Try.underlying45 hi hz0 hz1 hz2 rfl (by decide)
    _ X.length (X.map slz) (World.ownsRow.alloc h.own _) ⟨w.heap.size, 0, none⟩ 1 1 [slz x] rfl (cell_one_new w _ _) (by simp [Value.oneCell', slz]) (by unfold maxLen; omega) (by omega) (by simp; omega)
  have hkeep : ∀ k, k < w.heap.size → v.ownBlock ≠ some k → w'.heap[k]? = w.heap[k]? := fun k hk hne =>
    (hgrow.block k (by simp; omega) (fun e => hne e.symm)).trans (heap_alloc_old w _ hk)
  have hbel : Below base w w' := ((Below.refl base w).alloc hb _).grown hgrow (by simp; omega) (fun j e => (h.lt (.inl e)).1)
  have hbk : ∀ k, v'.ownBlock = some k → v.ownBlock = some k ∨ w.heap.size ≤ k := fun k hk => by
    rcases hblk with e | e
    · exact .inl (by rw [← e]; exact hk)
    · rw [e] at hk; simp at hk; exact .inr (by omega)
  have hmap : X.map slz ++ [slz x] = (X ++ [x]).map slz := by simp
  rw [hmap, ← show (X ++ [x]).length = X.length + 1 by simp] at hown
  have hnn : ∃ g' c', v' = .slice (some ⟨g', 0, none⟩) (X ++ [x]).length c' := by
    rcases hown.2 with ⟨e, hz⟩ | ⟨g', cap, cur, e, _⟩
    · have := (hnil.1 e).2
      simp at this
    · exact ⟨g', cap, e⟩
  have hro : ∀ y ∈ X, v.ownBlock ≠ some y.g := fun y hy he => by
    rcases h.nn with ⟨rfl, _⟩ | ⟨g, c, rfl, ho⟩
    · simp [Value.ownBlock] at he
    · simp [Value.ownBlock] at he; exact ho y hy he.symm
  refine ⟨v', w', hrun, ⟨hown, ?_, ?_, ?_⟩, hbel, hkeep, hbk⟩
  · obtain ⟨g', c', e⟩ := hnn
    refine .inr ⟨g', c', e, fun y hy ey => ?_⟩
    have hy2 : y.g < w.heap.size ∧ v.ownBlock ≠ some y.g := by
      rcases List.mem_append.1 hy with h1 | h1
      · exact ⟨(h.lt (.inr ⟨y, h1, rfl⟩)).2, hro y h1⟩
      · simp at h1; subst h1
        exact ⟨hx3.1, fun e2 => hx4 (.inl e2)⟩
    rcases hbk g' (by rw [e]; simp [Value.ownBlock]) with h1 | h1
    · rw [← ey] at h1; exact hy2.2 h1
    · omega
  · intro y hy
    have hsz : w.heap.size ≤ w'.heap.size := hbel.size
    rcases List.mem_append.1 hy with h1 | h1
    · obtain ⟨q1, q2, q3⟩ := h.rows y h1
      exact ⟨q1, q2, q3.same (hkeep _ q3.1 (hro y h1)) hsz⟩
    · simp at h1; subst h1
      exact ⟨hx1, hx2, hx3.same (hkeep _ hx3.1 (fun e => hx4 (.inl e))) hsz⟩
  · rw [List.map_append]
    refine List.nodup_append.2 ⟨h.apart, by simp, fun a ha b hb2 => ?_⟩
    simp at hb2; subst hb2
    obtain ⟨y, hy, rfl⟩ := List.mem_map.1 ha
    exact fun e => hx4 (.inr ⟨y, hy, e.symm⟩)

theorem HeldZ.nest {base g c n : Nat} {w : World} {X : List ZRow} (h : HeldZ base w (.slice (some ⟨g, 0, none⟩) n c) X) : n = X.length ∧ X.length ≤ c ∧ Nest w g base w.heap.size ((X.map fun x => x.L).map ints) (fun i => ((X[i]?).map ZRow.g).getD 0) (fun i => ((X[i]?).map ZRow.c).getD 0) := by
  rcases h.nn with ⟨e, _⟩ | ⟨g0, c0, e, hother⟩
  · simp at e
  simp at e
  obtain ⟨rfl, rfl, rfl⟩ := e
  obtain ⟨h1, h2, h3⟩ := CellRow.of_own h.own
  refine ⟨rfl, h2, ?_, h1, h3.1, Nat.le_refl _, ?_, ?_⟩
  · have e : sliceRow ((X.map fun x => x.L).map ints) (fun i => ((X[i]?).map ZRow.g).getD 0) (fun i => ((X[i]?).map ZRow.c).getD 0) = X.map slz := by
      apply List.ext_getElem?
      intro i
      by_cases hi : i < X.length
      · obtain ⟨x, hx⟩ : ∃ x, X[i]? = some x := ⟨_, List.getElem?_eq_getElem hi⟩
        rw [sliceRow_at (cs := ints x.L) (by rw [List.getElem?_map, List.getElem?_map, hx]; rfl), List.getElem?_map, hx]
        simp [slz, ints_length]
      · rw [List.getElem?_eq_none (by rw [sliceRow_length]; simp; omega), List.getElem?_eq_none (by simp; omega)]
    rw [e]; exact h3
  · intro i cs hcs
    have hi : i < X.length := by have := (List.getElem?_eq_some_iff.1 hcs).1; simpa using this
    obtain ⟨x, hx⟩ : ∃ x, X[i]? = some x := ⟨_, List.getElem?_eq_getElem hi⟩
    have hxm := List.mem_of_getElem? hx
    rw [List.getElem?_map, List.getElem?_map, hx] at hcs
    simp only [Option.map_some, Option.some.injEq] at hcs
    subst hcs
    obtain ⟨q1, q2, q3⟩ := h.rows x hxm
    have eg : ((X[i]?).map ZRow.g).getD 0 = x.g := by rw [hx]; rfl
    have ec : ((X[i]?).map ZRow.c).getD 0 = x.c := by rw [hx]; rfl
    show base ≤ ((X[i]?).map ZRow.g).getD 0 ∧ ((X[i]?).map ZRow.g).getD 0 < _ ∧ ((X[i]?).map ZRow.g).getD 0 ≠ g ∧ _ ≤ ((X[i]?).map ZRow.c).getD 0 ∧ CellRow w (((X[i]?).map ZRow.g).getD 0) _
    rw [eg, ec]
    exact ⟨q1, q3.1, hother x hxm, by rw [ints_length]; exact q2, q3⟩
  · intro i j hij hj
    have hj' : j < X.length := by simpa using hj
    have hnd := h.apart
    intro e
    have hi' : i < X.length := by omega
    simp only [List.getElem?_eq_getElem hi', List.getElem?_eq_getElem hj', Option.map_some, Option.getD_some] at e
    have := (List.pairwise_iff_getElem.1 hnd) i j (by simpa using hi') (by simpa using hj') hij
    simp [e] at this
/-- None yet: the nil list. -/
theorem HeldZ.nil (w : World) (base : Nat) : HeldZ base w (.slice none 0 0) [] := ⟨⟨by simp, .inl ⟨rfl, rfl⟩⟩, .inl ⟨rfl, rfl⟩, by simp, by simp⟩

end Go.Proofs.Ythmcjmjkmmbepaa
