/- Lists of rows that grow by append, and answers that are a new list of rows. -/
import Derived.Test.YtjlldjekjnlcaaaCRow
import Derived.Test.YtjlldjekjnlcaaaNest
namespace Go.Proofs.Ytjlldjekjnlcaaa
open Go.RowKit P

/-- A row's value. -/
def slv (x : CRow) : Value := .slice (some ⟨x.g, 0, none⟩) x.L.length x.c
/-- The blocks of a list of rows. -/
def Blk (v : Value) (X : List CRow) (k : Nat) : Prop := v.ownBlock = some k ∨ ∃ x ∈ X, k = x.g

/-- v is a list of rows of the call's own, above base, and not nil. -/
structure HeldR (base : Nat) (w : World) (v : Value) (X : List CRow) : Prop where
  own : w.ownsRow base 24 1 v X.length (X.map slv)
  nn : ∃ g c, v = .slice (some ⟨g, 0, none⟩) X.length c ∧ ∀ x ∈ X, x.g ≠ g
  rows : ∀ x ∈ X, base ≤ x.g ∧ x.L.length ≤ x.c ∧ CellRow w x.g (ints (nats x.L))
  apart : (X.map CRow.g).Nodup

theorem infoIntsR : (Try.prog.info? 24).map (fun i => (i.zero, i.size, i.bytes)) = some (some (.slice none 0 0), 1, 24) := by kernel_rfl

theorem HeldR.start (w : World) (base : Nat) (hb : base ≤ w.heap.size) : HeldR base (w.alloc (.cells #[] 24)) (.slice (some ⟨w.heap.size, 0, none⟩) 0 0) [] := by
  have h : (w.alloc (.cells #[] 24)).ownsRow w.heap.size 24 1 (.slice (some ⟨w.heap.size, 0, none⟩) 0 0) 0 [] := World.ownsRow_made w #[] 0 (Nat.le_refl _) (by decide) rfl
  refine ⟨⟨h.1, ?_⟩, ⟨_, _, rfl, by simp⟩, by simp, by simp⟩
  rcases h.2 with hn | ⟨j, cap, cur, e, h1, rest⟩
  · exact .inl hn
  · exact .inr ⟨j, cap, cur, e, by omega, rest⟩

theorem HeldR.lt {base : Nat} {w : World} {v : Value} {X : List CRow} (h : HeldR base w v X) {k : Nat} (hk : Blk v X k) : base ≤ k ∧ k < w.heap.size := by
  rcases hk with hk | ⟨x, hx, rfl⟩
  · obtain ⟨g, c, rfl, _⟩ := h.nn
    obtain ⟨h1, _, h3⟩ := CellRow.of_own h.own
    obtain rfl : g = k := by simpa [Value.ownBlock] using hk
    exact ⟨h1, h3.1⟩
  · obtain ⟨h1, _, h3⟩ := h.rows x hx
    exact ⟨h1, h3.1⟩

theorem HeldR.same {base : Nat} {w w' : World} {v : Value} {X : List CRow} (h : HeldR base w v X) (hb : ∀ k, k < w.heap.size → base ≤ k → Blk v X k → w'.heap[k]? = w.heap[k]?) (hs : w.heap.size ≤ w'.heap.size) : HeldR base w' v X := by
  refine ⟨⟨h.own.1, ?_⟩, h.nn, fun x hx => ?_, h.apart⟩
  · rcases h.own.2 with hn | ⟨j, cap, cur, e, hj, hg, rest⟩
    · exact .inl hn
    · have hB : Blk v X j := .inl (by rw [e]; simp [Value.ownBlock])
      exact .inr ⟨j, cap, cur, e, hj, (hb j (h.lt hB).2 hj hB).trans hg, rest⟩
  · obtain ⟨h1, h2, h3⟩ := h.rows x hx
    exact ⟨h1, h2, h3.same (hb _ h3.1 h1 (.inr ⟨x, hx, rfl⟩)) hs⟩
theorem HeldR.below {base : Nat} {w w' : World} {v : Value} {X : List CRow} (h : HeldR base w v X) (hb : Below w.heap.size w w') : HeldR base w' v X := h.same (fun k hk _ _ => hb.block k hk) hb.size
theorem HeldR.but {base V : Nat} {w w' : World} {v : Value} {X : List CRow} (h : HeldR base w v X) (hb : But V w w') (hV : ¬ Blk v X V) : HeldR base w' v X := h.same (fun k hk _ hB => hb.block k hk (fun e => hV (e ▸ hB))) hb.size

theorem HeldR.lower {base base' : Nat} {w : World} {v : Value} {X : List CRow} (h : HeldR base w v X) (hB : base' ≤ base) : HeldR base' w v X := by
  refine ⟨⟨h.own.1, ?_⟩, h.nn, fun x hx => ?_, h.apart⟩
  · rcases h.own.2 with hn | ⟨j, cap, cur, e, hj, rest⟩
    · exact .inl hn
    · exact .inr ⟨j, cap, cur, e, by omega, rest⟩
  · obtain ⟨h1, h2⟩ := h.rows x hx
    exact ⟨by omega, h2⟩

/-- 'append(l, row)' of one row. -/
theorem appendRow (base : Nat) (v : Value) (X : List CRow) (x : CRow) (w : World) (h : HeldR base w v X) (hb : base ≤ w.heap.size) (hx1 : base ≤ x.g) (hx2 : x.L.length ≤ x.c) (hx3 : CellRow w x.g (ints (nats x.L))) (hx4 : ¬ Blk v X x.g) (hn : X.length ≤ 1048576) :
    ∃ v' w', (heldAppend #[36, 36] 36 #[v, .slice (some ⟨w.heap.size, 0, none⟩) 1 1]).run Try.prog (w.alloc (.cells #[slv x] 24)) = .ok v' w' ∧
      HeldR base w' v' (X ++ [x]) ∧ Below base w w' ∧ (∀ k, k < w.heap.size → v.ownBlock ≠ some k → w'.heap[k]? = w.heap[k]?) ∧ (∀ k, v'.ownBlock = some k → v.ownBlock = some k ∨ w.heap.size ≤ k) := by
  obtain ⟨i0, hi, hz0, hz1, hz2⟩ := info_parts infoIntsR
  obtain ⟨g, c, hv, hother⟩ := h.nn
  obtain ⟨v', w', hrun, hown, hgrow, hnil, hblk⟩ := run_append_own_at (P := Try.prog) (w := w.alloc (.cells #[slv x] 24)) base 36 36 24 i0 (.slice none 0 0) 1 24 Try.underlying36 hi hz0 hz1 hz2 rfl (by decide)
    _ X.length (X.map slv) (World.ownsRow.alloc h.own _) ⟨w.heap.size, 0, none⟩ 1 1 [slv x] rfl (cell_one_new w _ _) (by simp [Value.oneCell', slv]) (by unfold maxLen; omega) (by omega) (by simp; omega)
  have hlt := (h.lt (.inl (by rw [hv]; simp [Value.ownBlock]) : Blk v X g)).2
  have hkeep : ∀ k, k < w.heap.size → v.ownBlock ≠ some k → w'.heap[k]? = w.heap[k]? := fun k hk hne =>
    (hgrow.block k (by simp; omega) (fun e => hne e.symm)).trans (heap_alloc_old w _ hk)
  have hbel : Below base w w' := ((Below.refl base w).alloc hb _).grown hgrow (by simp; omega) (fun j e => (h.lt (.inl e)).1)
  have hbk : ∀ k, v'.ownBlock = some k → v.ownBlock = some k ∨ w.heap.size ≤ k := fun k hk => by
    rcases hblk with e | e
    · exact .inl (by rw [← e]; exact hk)
    · rw [e] at hk; simp at hk; exact .inr (by omega)
  have hmap : X.map slv ++ [slv x] = (X ++ [x]).map slv := by simp
  rw [hmap, ← show (X ++ [x]).length = X.length + 1 by simp] at hown
  have hnn : ∃ g' c', v' = .slice (some ⟨g', 0, none⟩) (X ++ [x]).length c' := by
    rcases hown.2 with ⟨e, hz⟩ | ⟨g', cap, cur, e, _⟩
    · have := (hnil.1 e).1
      rw [hv] at this; simp at this
    · exact ⟨g', cap, e⟩
  refine ⟨v', w', hrun, ⟨hown, ?_, ?_, ?_⟩, hbel, hkeep, hbk⟩
  · obtain ⟨g', c', e⟩ := hnn
    refine ⟨g', c', e, fun y hy ey => ?_⟩
    have hy2 : y.g < w.heap.size ∧ y.g ≠ g := by
      rcases List.mem_append.1 hy with h1 | h1
      · exact ⟨(h.lt (.inr ⟨y, h1, rfl⟩)).2, hother y h1⟩
      · simp at h1; subst h1
        exact ⟨hx3.1, fun e2 => hx4 (.inl (by rw [hv]; simp [Value.ownBlock, e2]))⟩
    rcases hbk g' (by rw [e]; simp [Value.ownBlock]) with h1 | h1
    · rw [hv] at h1; simp [Value.ownBlock] at h1; omega
    · omega
  · intro y hy
    have hsz : w.heap.size ≤ w'.heap.size := hbel.size
    rcases List.mem_append.1 hy with h1 | h1
    · obtain ⟨q1, q2, q3⟩ := h.rows y h1
      exact ⟨q1, q2, q3.same (hkeep _ q3.1 (by rw [hv]; simp [Value.ownBlock]; exact fun e => hother y h1 e.symm)) hsz⟩
    · simp at h1; subst h1
      exact ⟨hx1, hx2, hx3.same (hkeep _ hx3.1 (fun e => hx4 (.inl e))) hsz⟩
  · rw [List.map_append]
    refine List.nodup_append.2 ⟨h.apart, by simp, fun a ha b hb2 => ?_⟩
    simp at hb2; subst hb2
    obtain ⟨y, hy, rfl⟩ := List.mem_map.1 ha
    exact fun e => hx4 (.inr ⟨y, hy, e.symm⟩)

/-- A new list of rows and a bool. -/
def RetSS (r : List (List Int) × Bool) (w : World) (e : Ending) (w' : World) : Prop :=
  ∃ g c G C, e = .returned (.tuple #[.slice (some ⟨g, 0, none⟩) r.1.length c, .bool r.2]) ∧ r.1.length ≤ c ∧ Nest w' g w.heap.size w'.heap.size (r.1.map ints) G C ∧ Below w.heap.size w w'

theorem HeldR.nest {base g c n : Nat} {w : World} {X : List CRow} (h : HeldR base w (.slice (some ⟨g, 0, none⟩) n c) X) : n = X.length ∧ X.length ≤ c ∧ Nest w g base w.heap.size ((X.map fun x => nats x.L).map ints) (fun i => ((X[i]?).map CRow.g).getD 0) (fun i => ((X[i]?).map CRow.c).getD 0) := by
  obtain ⟨g0, c0, e, hother⟩ := h.nn
  simp at e
  obtain ⟨rfl, rfl, rfl⟩ := e
  obtain ⟨h1, h2, h3⟩ := CellRow.of_own h.own
  refine ⟨rfl, h2, ?_, h1, h3.1, Nat.le_refl _, ?_, ?_⟩
  · have e : sliceRow ((X.map fun x => nats x.L).map ints) (fun i => ((X[i]?).map CRow.g).getD 0) (fun i => ((X[i]?).map CRow.c).getD 0) = X.map slv := by
      apply List.ext_getElem?
      intro i
      by_cases hi : i < X.length
      · obtain ⟨x, hx⟩ : ∃ x, X[i]? = some x := ⟨_, List.getElem?_eq_getElem hi⟩
        rw [sliceRow_at (cs := ints (nats x.L)) (by rw [List.getElem?_map, List.getElem?_map, hx]; rfl), List.getElem?_map, hx]
        simp [slv, ints_length, nats_length]
      · rw [List.getElem?_eq_none (by rw [sliceRow_length]; simp; omega), List.getElem?_eq_none (by simp; omega)]
    rw [e]; exact h3
  · intro i cs hcs
    have hi : i < X.length := by have := (List.getElem?_eq_some_iff.1 hcs).1; simpa using this
    obtain ⟨x, hx⟩ : ∃ x, X[i]? = some x := ⟨_, List.getElem?_eq_getElem hi⟩
    have hxm := List.mem_of_getElem? hx
    rw [List.getElem?_map, List.getElem?_map, hx] at hcs
    simp only [Option.map_some, Option.some.injEq] at hcs
    subst hcs
    obtain ⟨q1, q2, q3⟩ := h.rows x hxm
    have eg : ((X[i]?).map CRow.g).getD 0 = x.g := by rw [hx]; rfl
    have ec : ((X[i]?).map CRow.c).getD 0 = x.c := by rw [hx]; rfl
    show base ≤ ((X[i]?).map CRow.g).getD 0 ∧ ((X[i]?).map CRow.g).getD 0 < _ ∧ ((X[i]?).map CRow.g).getD 0 ≠ g ∧ _ ≤ ((X[i]?).map CRow.c).getD 0 ∧ CellRow w (((X[i]?).map CRow.g).getD 0) _
    rw [eg, ec]
    exact ⟨q1, q3.1, hother x hxm, by rw [ints_length, nats_length]; exact q2, q3⟩
  · intro i j hij hj
    have hj' : j < X.length := by simpa using hj
    have hnd := h.apart
    intro e
    have hi' : i < X.length := by omega
    simp only [List.getElem?_eq_getElem hi', List.getElem?_eq_getElem hj', Option.map_some, Option.getD_some] at e
    have := (List.pairwise_iff_getElem.1 hnd) i j (by simpa using hi') (by simpa using hj') hij
    simp [e] at this

theorem HeldR.ret {w w' : World} {v : Value} {X : List CRow} {M : List (List Int)} (h : HeldR w.heap.size w' v X) (hM : X.map (fun x => nats x.L) = M) (hb : Below w.heap.size w w') : RetSS (M, true) w (.returned (.tuple #[v, .bool true])) w' := by
  obtain ⟨g, c, rfl, _⟩ := h.nn
  obtain ⟨_, h2, h3⟩ := h.nest
  rw [hM] at h3
  have hl : X.length = M.length := by rw [← hM]; simp
  exact ⟨g, c, _, _, by rw [hl], by rw [← hl]; exact h2, h3, hb⟩
theorem RetSS.none (w w1 : World) (hb : Below w.heap.size w w1) (w2 : World) (hb2 : Below w1.heap.size (w1.alloc (.cells #[] 24)) w2) : RetSS ([], false) w (.returned (.tuple #[.slice (some ⟨w1.heap.size, 0, none⟩) 0 0, .bool false])) w2 := by
  have hs := hb2.size
  rw [World.size_alloc] at hs
  have hw := hb.size
  exact ⟨w1.heap.size, 0, fun _ => 0, fun _ => 0, rfl, Nat.le_refl _, ⟨⟨by omega, fun j u hu => by simp [sliceRow] at hu⟩, hw, by omega, Nat.le_refl _, fun i cs h => by simp at h, fun i j _ h => by simp at h⟩,
    hb.trans (((Below.refl _ w1).alloc hw _).trans (hb2.mono hw))⟩

end Go.Proofs.Ytjlldjekjnlcaaa
