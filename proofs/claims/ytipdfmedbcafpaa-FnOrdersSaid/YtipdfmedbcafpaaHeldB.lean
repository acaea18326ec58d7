/- Lists of rows of bools that grow by append. -/
import Derived.Test.YtipdfmedbcafpaaHeldR
import Derived.Test.YtipdfmedbcafpaaBools
namespace Go.Proofs.Ytipdfmedbcafpaa
open Go.RowKit
namespace HB
/-- A row: its block, its capacity, its elements. -/
structure BRow where
  g : Nat
  c : Nat
  L : List Bool

/-- v is a list of the call's own, above base, and not nil. -/
def Held (base : Nat) (w : World) (v : Value) (L : List Bool) : Prop := w.ownsRow base 4 1 v L.length (bools L) ∧ ∃ g c, v = .slice (some ⟨g, 0, none⟩) L.length c

theorem infoIntH : (Try.prog.info? 4).map (fun i => (i.zero, i.size, i.bytes)) = some (some (.bool false), 1, 1) := by kernel_rfl

theorem Held.lower {base base' : Nat} {w : World} {v : Value} {L : List Bool} (h : Held base w v L) (hB : base' ≤ base) : Held base' w v L := by
  refine ⟨⟨h.1.1, ?_⟩, h.2⟩
  rcases h.1.2 with hn | ⟨j, cap, cur, rfl, h1, hg, rest⟩
  · exact .inl hn
  · exact .inr ⟨j, cap, cur, rfl, by omega, hg, rest⟩
theorem Held.start (w : World) (base : Nat) (hb : base ≤ w.heap.size) : Held base (w.alloc (.cells #[] 4)) (.slice (some ⟨w.heap.size, 0, none⟩) 0 0) [] :=
  Held.lower ⟨World.ownsRow_made w #[] 0 (Nat.le_refl _) (by decide) rfl, _, _, rfl⟩ hb
theorem Held.row {base : Nat} {w : World} {v : Value} {L : List Bool} (h : Held base w v L) : ∃ g c, v = .slice (some ⟨g, 0, none⟩) L.length c ∧ base ≤ g ∧ L.length ≤ c ∧ CellRow w g (bools L) := by
  obtain ⟨h1, g, c, rfl⟩ := h
  obtain ⟨a, b, d⟩ := CellRow.of_own h1
  exact ⟨g, c, rfl, a, b, d⟩
theorem Held.flat {base : Nat} {w : World} {v : Value} {L : List Bool} (h : Held base w v L) : FlatAt w v L.length (bools L) := by
  obtain ⟨g, c, rfl, _, hc, hr⟩ := h.row
  exact hr.flat hc
theorem Held.alloc {base : Nat} {w : World} {v : Value} {L : List Bool} (h : Held base w v L) (o : Obj) : Held base (w.alloc o) v L := ⟨World.ownsRow.alloc h.1 _, h.2⟩
theorem Held.same {base : Nat} {w w' : World} {v : Value} {L : List Bool} (h : Held base w v L) (hb : ∀ k, k < w.heap.size → base ≤ k → w'.heap[k]? = w.heap[k]?) (_hs : w.heap.size ≤ w'.heap.size) : Held base w' v L := by
  obtain ⟨h1, h2⟩ := h
  have hlt := h1.lt
  refine ⟨⟨h1.1, ?_⟩, h2⟩
  rcases h1.2 with hn | ⟨j, cap, cur, rfl, hj, hg, rest⟩
  · exact .inl hn
  · have := hlt j rfl
    exact .inr ⟨j, cap, cur, rfl, hj, (hb j this.2 hj).trans hg, rest⟩
theorem Held.own {base : Nat} {w w' : World} {v : Value} {L : List Bool} (h : Held base w v L) (hb : ∀ g c, v = .slice (some ⟨g, 0, none⟩) L.length c → g < w.heap.size → w'.heap[g]? = w.heap[g]?) : Held base w' v L := by
  obtain ⟨h1, g0, c0, rfl⟩ := h
  have hlt := h1.lt g0 rfl
  refine ⟨⟨h1.1, ?_⟩, g0, c0, rfl⟩
  rcases h1.2 with ⟨hn, _⟩ | ⟨j, cap, cur, e, hj, hg, rest⟩
  · simp at hn
  · simp at e
    obtain ⟨rfl, rfl⟩ := e
    exact .inr ⟨g0, c0, cur, rfl, hj, (hb g0 c0 rfl hlt.2).trans hg, rest⟩
theorem Held.below {base : Nat} {w w' : World} {v : Value} {L : List Bool} (h : Held base w v L) (hb : Below w.heap.size w w') : Held base w' v L := h.same (fun k hk _ => hb.block k hk) hb.size

/-- A row's value. -/
def slv (x : BRow) : Value := .slice (some ⟨x.g, 0, none⟩) x.L.length x.c
/-- The blocks of a list of rows. -/
def Blk (v : Value) (X : List BRow) (k : Nat) : Prop := v.ownBlock = some k ∨ ∃ x ∈ X, k = x.g

/-- v is a list of rows of the call's own, above base, and not nil. -/
structure HeldR (base : Nat) (w : World) (v : Value) (X : List BRow) : Prop where
  own : w.ownsRow base 33 1 v X.length (X.map slv)
  nn : ∃ g c, v = .slice (some ⟨g, 0, none⟩) X.length c ∧ ∀ x ∈ X, x.g ≠ g
  rows : ∀ x ∈ X, base ≤ x.g ∧ x.L.length ≤ x.c ∧ CellRow w x.g (bools x.L)
  apart : (X.map BRow.g).Nodup

theorem infoIntsR : (Try.prog.info? 33).map (fun i => (i.zero, i.size, i.bytes)) = some (some (.slice none 0 0), 1, 24) := by kernel_rfl

theorem HeldR.start (w : World) (base : Nat) (hb : base ≤ w.heap.size) : HeldR base (w.alloc (.cells #[] 33)) (.slice (some ⟨w.heap.size, 0, none⟩) 0 0) [] := by
  have h : (w.alloc (.cells #[] 33)).ownsRow w.heap.size 33 1 (.slice (some ⟨w.heap.size, 0, none⟩) 0 0) 0 [] := World.ownsRow_made w #[] 0 (Nat.le_refl _) (by decide) rfl
  refine ⟨⟨h.1, ?_⟩, ⟨_, _, rfl, by simp⟩, by simp, by simp⟩
  rcases h.2 with hn | ⟨j, cap, cur, e, h1, rest⟩
  · exact .inl hn
  · exact .inr ⟨j, cap, cur, e, by omega, rest⟩

theorem HeldR.lt {base : Nat} {w : World} {v : Value} {X : List BRow} (h : HeldR base w v X) {k : Nat} (hk : Blk v X k) : base ≤ k ∧ k < w.heap.size := by
  rcases hk with hk | ⟨x, hx, rfl⟩
  · obtain ⟨g, c, rfl, _⟩ := h.nn
    obtain ⟨h1, _, h3⟩ := CellRow.of_own h.own
    obtain rfl : g = k := by simpa [Value.ownBlock] using hk
    exact ⟨h1, h3.1⟩
  · obtain ⟨h1, _, h3⟩ := h.rows x hx
    exact ⟨h1, h3.1⟩

theorem HeldR.same {base : Nat} {w w' : World} {v : Value} {X : List BRow} (h : HeldR base w v X) (hb : ∀ k, k < w.heap.size → base ≤ k → Blk v X k → w'.heap[k]? = w.heap[k]?) (hs : w.heap.size ≤ w'.heap.size) : HeldR base w' v X := by
  refine ⟨⟨h.own.1, ?_⟩, h.nn, fun x hx => ?_, h.apart⟩
  · rcases h.own.2 with hn | ⟨j, cap, cur, e, hj, hg, rest⟩
    · exact .inl hn
    · have hB : Blk v X j := .inl (by rw [e]; simp [Value.ownBlock])
      exact .inr ⟨j, cap, cur, e, hj, (hb j (h.lt hB).2 hj hB).trans hg, rest⟩
  · obtain ⟨h1, h2, h3⟩ := h.rows x hx
    exact ⟨h1, h2, h3.same (hb _ h3.1 h1 (.inr ⟨x, hx, rfl⟩)) hs⟩
theorem HeldR.below {base : Nat} {w w' : World} {v : Value} {X : List BRow} (h : HeldR base w v X) (hb : Below w.heap.size w w') : HeldR base w' v X := h.same (fun k hk _ _ => hb.block k hk) hb.size
theorem HeldR.but {base V : Nat} {w w' : World} {v : Value} {X : List BRow} (h : HeldR base w v X) (hb : But V w w') (hV : ¬ Blk v X V) : HeldR base w' v X := h.same (fun k hk _ hB => hb.block k hk (fun e => hV (e ▸ hB))) hb.size

theorem HeldR.lower {base base' : Nat} {w : World} {v : Value} {X : List BRow} (h : HeldR base w v X) (hB : base' ≤ base) : HeldR base' w v X := by
  refine ⟨⟨h.own.1, ?_⟩, h.nn, fun x hx => ?_, h.apart⟩
  · rcases h.own.2 with hn | ⟨j, cap, cur, e, hj, rest⟩
    · exact .inl hn
    · exact .inr ⟨j, cap, cur, e, by omega, rest⟩
  · obtain ⟨h1, h2⟩ := h.rows x hx
    exact ⟨by omega, h2⟩

/-- 'append(l, row)' of one row. -/
theorem appendRow (base : Nat) (v : Value) (X : List BRow) (x : BRow) (w : World) (h : HeldR base w v X) (hb : base ≤ w.heap.size) (hx1 : base ≤ x.g) (hx2 : x.L.length ≤ x.c) (hx3 : CellRow w x.g (bools x.L)) (hx4 : ¬ Blk v X x.g) (hn : X.length ≤ 1048576) :
    ∃ v' w', (heldAppend #[24, 24] 24 #[v, .slice (some ⟨w.heap.size, 0, none⟩) 1 1]).run Try.prog (w.alloc (.cells #[slv x] 33)) = .ok v' w' ∧
      HeldR base w' v' (X ++ [x]) ∧ Below base w w' ∧ (∀ k, k < w.heap.size → v.ownBlock ≠ some k → w'.heap[k]? = w.heap[k]?) ∧ (∀ k, v'.ownBlock = some k → v.ownBlock = some k ∨ w.heap.size ≤ k) := by
  obtain ⟨i0, hi, hz0, hz1, hz2⟩ := info_parts infoIntsR
  obtain ⟨g, c, hv, hother⟩ := h.nn
  obtain ⟨v', w', hrun, hown, hgrow, hnil, hblk⟩ := run_append_own_at (P := Try.prog) (w := w.alloc (.cells #[slv x] 33)) base 24 24 33 i0 (.slice none 0 0) 1 24 Try.underlying24 hi hz0 hz1 hz2 rfl (by decide)
    _ X.length (X.map slv) (World.ownsRow.alloc h.own _) ⟨w.heap.size, 0, none⟩ 1 1 [slv x] rfl (cell_one_new w _ _) (by simp [Value.oneCell', slv]) (by unfold maxLen; omega) (by omega) (by simp; omega)
  have hlt := (h.lt (.inl (by rw [hv]; simp [Value.ownBlock]) : Blk v X g)).2
  have hkeep : ∀ k, k < w.heap.size → v.ownBlock ≠ some k → w'.heap[k]? = w.heap[k]? := fun k hk hne =>
    (hgrow.block k (by simp; omega) (fun e => hne e.symm)).trans (heap_alloc_old w _ hk)
  have hbel : Below base w w' := ((Below.refl base w).alloc hb _).grown hgrow (by simp; omega) (fun j e => (h.lt (.inl e)).1)
  have hbk : ∀ k, v'.ownBlock = some k → v.ownBlock = some k ∨ w.heap.size ≤ k := fun k hk => by
    rcases hblk with e | e
    · exact .inl (by rw [← e]; exact hk)
    · rw [e] at hk; simp at hk; exact .inr (by omega)
  have hmap : X.map slv ++ [slv x] = (X ++ [x]).map slv := by simp
  rw [hmap, ← show (X ++ [x]).length = X.length + 1 by simp] at hown
  have hnn : ∃ g' c', v' = .slice (some ⟨g', 0, none⟩) (X ++ [x]).length c' := by
    rcases hown.2 with ⟨e, hz⟩ | ⟨g', cap, cur, e, _⟩
    · have := (hnil.1 e).1
      rw [hv] at this; simp at this
    · exact ⟨g', cap, e⟩
  refine ⟨v', w', hrun, ⟨hown, ?_, ?_, ?_⟩, hbel, hkeep, hbk⟩
  · obtain ⟨g', c', e⟩ := hnn
    refine ⟨g', c', e, fun y hy ey => ?_⟩
    have hy2 : y.g < w.heap.size ∧ y.g ≠ g := by
      rcases List.mem_append.1 hy with h1 | h1
      · exact ⟨(h.lt (.inr ⟨y, h1, rfl⟩)).2, hother y h1⟩
      · simp at h1; subst h1
        exact ⟨hx3.1, fun e2 => hx4 (.inl (by rw [hv]; simp [Value.ownBlock, e2]))⟩
    rcases hbk g' (by rw [e]; simp [Value.ownBlock]) with h1 | h1
    · rw [hv] at h1; simp [Value.ownBlock] at h1; omega
    · omega
  · intro y hy
    have hsz : w.heap.size ≤ w'.heap.size := hbel.size
    rcases List.mem_append.1 hy with h1 | h1
    · obtain ⟨q1, q2, q3⟩ := h.rows y h1
      exact ⟨q1, q2, q3.same (hkeep _ q3.1 (by rw [hv]; simp [Value.ownBlock]; exact fun e => hother y h1 e.symm)) hsz⟩
    · simp at h1; subst h1
      exact ⟨hx1, hx2, hx3.same (hkeep _ hx3.1 (fun e => hx4 (.inl e))) hsz⟩
  · rw [List.map_append]
    refine List.nodup_append.2 ⟨h.apart, by simp, fun a ha b hb2 => ?_⟩
    simp at hb2; subst hb2
    obtain ⟨y, hy, rfl⟩ := List.mem_map.1 ha
    exact fun e => hx4 (.inr ⟨y, hy, e.symm⟩)

/-- Rows that can be appended to. -/
structure HeldQ (base : Nat) (w : World) (v : Value) (X : List BRow) : Prop where
  r : HeldR base w v X
  q : ∀ x ∈ X, Held base w (slv x) x.L

theorem HeldQ.start (w : World) (base : Nat) (hb : base ≤ w.heap.size) : HeldQ base (w.alloc (.cells #[] 33)) (.slice (some ⟨w.heap.size, 0, none⟩) 0 0) [] := ⟨HeldR.start w base hb, by simp⟩
theorem HeldQ.same {base : Nat} {w w' : World} {v : Value} {X : List BRow} (h : HeldQ base w v X) (hb : ∀ k, k < w.heap.size → base ≤ k → Blk v X k → w'.heap[k]? = w.heap[k]?) (hs : w.heap.size ≤ w'.heap.size) : HeldQ base w' v X := by
  refine ⟨h.r.same hb hs, fun x hx => (h.q x hx).own fun g c e hlt => ?_⟩
  have hB : Blk v X g := .inr ⟨x, hx, by simp [slv] at e; exact e.1.symm⟩
  exact hb g hlt (h.r.lt hB).1 hB
theorem HeldQ.below {base : Nat} {w w' : World} {v : Value} {X : List BRow} (h : HeldQ base w v X) (hb : Below w.heap.size w w') : HeldQ base w' v X := h.same (fun k hk _ _ => hb.block k hk) hb.size

/-- A row's own facts, said of its parts. -/
theorem Held.parts {base : Nat} {w : World} {x : BRow} (h : Held base w (slv x) x.L) : base ≤ x.g ∧ x.L.length ≤ x.c ∧ CellRow w x.g (bools x.L) := by
  obtain ⟨g, c, e, h1, h2, h3⟩ := h.row
  simp [slv] at e
  obtain ⟨rfl, _, rfl⟩ := e
  exact ⟨h1, by simpa [id_eq] using h2, h3⟩

/-- 'append(l, row)' of one row. -/
theorem appendRowQ (base : Nat) (v : Value) (X : List BRow) (x : BRow) (w : World) (h : HeldQ base w v X) (hb : base ≤ w.heap.size) (hx : Held base w (slv x) x.L) (hx4 : ¬ Blk v X x.g) (hn : X.length ≤ 1048576) :
    ∃ v' w', (heldAppend #[24, 24] 24 #[v, .slice (some ⟨w.heap.size, 0, none⟩) 1 1]).run Try.prog (w.alloc (.cells #[slv x] 33)) = .ok v' w' ∧
      HeldQ base w' v' (X ++ [x]) ∧ Below base w w' ∧ (∀ k, k < w.heap.size → v.ownBlock ≠ some k → w'.heap[k]? = w.heap[k]?) ∧ (∀ k, v'.ownBlock = some k → v.ownBlock = some k ∨ w.heap.size ≤ k) := by
  obtain ⟨h1, h2, h3⟩ := hx.parts
  obtain ⟨v', w', r, hR, hB, hk, hbl⟩ := appendRow base v X x w h.r hb h1 h2 h3 hx4 hn
  refine ⟨v', w', r, ⟨hR, fun y hy => ?_⟩, hB, hk, hbl⟩
  obtain ⟨g, c, rfl, hother⟩ := h.r.nn
  rcases List.mem_append.1 hy with hy | hy
  · refine (h.q y hy).own fun g2 c2 e hlt => hk g2 hlt ?_
    simp [slv] at e
    have := hother y hy
    simp [Value.ownBlock]
    omega
  · simp at hy; subst hy
    refine hx.own fun g2 c2 e hlt => hk g2 hlt ?_
    simp [slv] at e
    obtain ⟨rfl, _⟩ := e
    exact fun e2 => hx4 (.inl e2)

/-- 'append(l, n)' of one number, told of where it lies. -/
theorem appendOneAt (base : Nat) (v : Value) (L : List Bool) (x : Bool) (w : World) (h : Held base w v L) (hb : base ≤ w.heap.size) (hn : L.length ≤ 1048576) :
    ∃ v' w', (heldAppend #[33, 33] 33 #[v, .slice (some ⟨w.heap.size, 0, none⟩) 1 1]).run Try.prog (w.alloc (.cells #[.bool x] 4)) = .ok v' w' ∧
      Held base w' v' (L ++ [x]) ∧ Below base w w' ∧ (∀ k, k < w.heap.size → v.ownBlock ≠ some k → w'.heap[k]? = w.heap[k]?) ∧ (∀ k, v'.ownBlock = some k → v.ownBlock = some k ∨ w.heap.size ≤ k) := by
  obtain ⟨i0, hi, hz0, hz1, hz2⟩ := info_parts infoIntH
  obtain ⟨h, g, c, rfl⟩ := h
  obtain ⟨v', w', hrun, hown, hgrow, hnil, hblk⟩ := run_append_own_at (P := Try.prog) (w := w.alloc (.cells #[.bool x] 4)) base 33 33 4 i0 (.bool false) 1 1 Try.underlying33 hi hz0 hz1 hz2 rfl (by decide)
    _ L.length (bools L) (World.ownsRow.alloc h _) ⟨w.heap.size, 0, none⟩ 1 1 [.bool x] rfl (cell_one_new w _ _) (by simp [Value.oneCell']) (by unfold maxLen; omega) (by omega) (by simp; omega)
  rw [show [Value.bool x] = bools [x] from rfl, ← bools_append L [x], ← show (L ++ [x]).length = L.length + 1 by simp] at hown
  refine ⟨v', w', hrun, ⟨hown, ?_⟩, ((Below.refl base w).alloc hb _).grown hgrow (by simp; omega) (fun j e => (h.lt j e).1), fun k hk hne => (hgrow.block k (by simp; omega) (fun e => hne e.symm)).trans (heap_alloc_old w _ hk), fun k hk => ?_⟩
  · rcases hown.2 with ⟨e, hz⟩ | ⟨g', cap, cur, e, _⟩
    · have := (hnil.1 e).1
      simp at this
    · exact ⟨g', cap, e⟩
  · rcases hblk with e | e
    · exact .inl (by rw [← e]; exact hk)
    · rw [e] at hk; simp at hk; exact .inr (by omega)

/-- 'l[k] = append(l[k], n)'. -/
theorem appendIn (base g c k : Nat) (X : List BRow) (x : BRow) (e : Bool) (w : World) (h : HeldQ base w (.slice (some ⟨g, 0, none⟩) X.length c) X) (hx : X[k]? = some x) (hb : base ≤ w.heap.size) (hn : x.L.length ≤ 1048576) :
    ∃ g' c' w1, (heldAppend #[33, 33] 33 #[.slice (some ⟨x.g, 0, none⟩) x.L.length x.c, .slice (some ⟨w.heap.size, 0, none⟩) 1 1]).run Try.prog (w.alloc (.cells #[.bool e] 4)) = .ok (.slice (some ⟨g', 0, none⟩) (x.L.length + 1) c') w1 ∧
      HeldQ base (w1.setCell ⟨g, k, none⟩ (.slice (some ⟨g', 0, none⟩) (x.L.length + 1) c')) (.slice (some ⟨g, 0, none⟩) X.length c) (X.set k ⟨g', c', x.L ++ [e]⟩) ∧ Below base w (w1.setCell ⟨g, k, none⟩ (.slice (some ⟨g', 0, none⟩) (x.L.length + 1) c')) ∧
      w1.cell? ⟨g, k, none⟩ = some (.slice (some ⟨x.g, 0, none⟩) x.L.length x.c) ∧ w1.frozen? ⟨g, k, none⟩ = false ∧
      (∀ j, j < w.heap.size → ¬ Blk (.slice (some ⟨g, 0, none⟩) X.length c) X j → (w1.setCell ⟨g, k, none⟩ (.slice (some ⟨g', 0, none⟩) (x.L.length + 1) c')).heap[j]? = w.heap[j]? ∧ ¬ Blk (.slice (some ⟨g, 0, none⟩) X.length c) (X.set k ⟨g', c', x.L ++ [e]⟩) j) := by
  have hkl := (List.getElem?_eq_some_iff.1 hx).1
  have hxm := List.mem_of_getElem? hx
  have hQ := h.q x hxm
  obtain ⟨g0, c0, e0, hother⟩ := h.r.nn
  simp at e0
  obtain ⟨rfl, rfl⟩ := e0
  obtain ⟨v', w1, r, hH, hB, hk, hbl⟩ := appendOneAt base (slv x) x.L e w hQ hb hn
  obtain ⟨g', c', rfl, hg1, hg2, hg3⟩ := hH.row
  have hlen : (x.L ++ [e]).length = x.L.length + 1 := by simp
  rw [hlen] at hH hg2 r hbl
  have hnats : (x.L ++ [e]) = x.L ++ [e] := rfl
  have hgsz : g < w.heap.size := (h.r.lt (.inl (by simp [Value.ownBlock]) : Blk (.slice (some ⟨g, 0, none⟩) X.length c) X g)).2
  have hgb : base ≤ g := (h.r.lt (.inl (by simp [Value.ownBlock]) : Blk (.slice (some ⟨g, 0, none⟩) X.length c) X g)).1
  have hgx := hother x hxm
  have hg' : g' = x.g ∨ w.heap.size ≤ g' := by
    rcases hbl g' (by simp [Value.ownBlock]) with h1 | h1
    · simp [slv, Value.ownBlock] at h1; exact .inl h1.symm
    · exact .inr h1
  have hgg' : g' ≠ g := by rcases hg' with h1 | h1 <;> omega
  have hblock : w1.heap[g]? = w.heap[g]? := hk g hgsz (by simp [slv, Value.ownBlock]; exact hgx)
  have hown1 : w1.ownsRow base 33 1 (.slice (some ⟨g, 0, none⟩) X.length c) X.length (X.map slv) := by
    refine ⟨h.r.own.1, ?_⟩
    rcases h.r.own.2 with hz | ⟨j, cap, cur, ee, h1, h2, rest⟩
    · exact .inl hz
    · simp at ee
      obtain ⟨rfl, rfl⟩ := ee
      exact .inr ⟨g, c, cur, rfl, h1, hblock.trans h2, rest⟩
  obtain ⟨hst, hgr⟩ := hown1.stored k (.slice (some ⟨g', 0, none⟩) (x.L.length + 1) c')
  have hoth : ∀ j, j ≠ g → (w1.setCell ⟨g, k, none⟩ (.slice (some ⟨g', 0, none⟩) (x.L.length + 1) c')).heap[j]? = w1.heap[j]? := fun j hj => Below.heap_setCell _ _ _ _ (fun e => hj e)
  have hsz : w1.heap.size ≤ (w1.setCell ⟨g, k, none⟩ (.slice (some ⟨g', 0, none⟩) (x.L.length + 1) c')).heap.size := by simp
  have hnew : Held base (w1.setCell ⟨g, k, none⟩ (.slice (some ⟨g', 0, none⟩) (x.L.length + 1) c')) (.slice (some ⟨g', 0, none⟩) (x.L.length + 1) c') ((x.L ++ [e])) := by
    rw [hnats]
    exact hH.own fun g2 c2 ee _ => hoth g2 (by simp at ee; omega)
  have hrowsne : ∀ (j : Nat) y, j ≠ k → X[j]? = some y → y.g ≠ x.g := fun j y hj hy e2 => by
    obtain ⟨hjl, rfl⟩ := List.getElem?_eq_some_iff.1 hy
    obtain ⟨_, rfl⟩ := List.getElem?_eq_some_iff.1 hx
    have hnd := List.pairwise_iff_getElem.1 h.r.apart
    rcases Nat.lt_or_gt_of_ne hj with h1 | h1
    · have := hnd j k (by simpa using hjl) (by simpa using hkl) h1; simp at this; exact this e2
    · have := hnd k j (by simpa using hkl) (by simpa using hjl) h1; simp at this; exact this e2.symm
  have hold : ∀ (j : Nat) y, j ≠ k → X[j]? = some y → Held base (w1.setCell ⟨g, k, none⟩ (.slice (some ⟨g', 0, none⟩) (x.L.length + 1) c')) (slv y) y.L := fun j y hj hy => by
    have hym := List.mem_of_getElem? hy
    refine (h.q y hym).own fun g2 c2 ee hlt => ?_
    simp [slv] at ee
    obtain ⟨rfl, _⟩ := ee
    exact (hoth _ (hother y hym)).trans (hk _ hlt (by simp [slv, Value.ownBlock]; exact fun e2 => hrowsne j y hj hy e2.symm))
  have hall : ∀ y ∈ X.set k ⟨g', c', x.L ++ [e]⟩, Held base (w1.setCell ⟨g, k, none⟩ (.slice (some ⟨g', 0, none⟩) (x.L.length + 1) c')) (slv y) y.L ∧ y.g ≠ g := fun y hy => by
    obtain ⟨j, hj⟩ := List.mem_iff_getElem?.1 hy
    rw [List.getElem?_set] at hj
    by_cases hjk : k = j
    · rw [if_pos hjk, if_pos hkl] at hj
      simp at hj; subst hj
      refine ⟨?_, hgg'⟩
      have e2 : slv ⟨g', c', x.L ++ [e]⟩ = .slice (some ⟨g', 0, none⟩) (x.L.length + 1) c' := by simp [slv]
      rw [e2]; exact hnew
    · rw [if_neg hjk] at hj
      exact ⟨hold j y (fun e => hjk e.symm) hj, hother y (List.mem_of_getElem? hj)⟩
  refine ⟨g', c', w1, by simpa [slv] using r, ⟨⟨?_, ⟨g, c, by simp, fun y hy => (hall y hy).2⟩, fun y hy => (hall y hy).1.parts, ?_⟩, fun y hy => (hall y hy).1⟩, hB.setCell (p := ⟨g, k, none⟩) hgb _, ?_, hown1.frozenAt k, fun j hj hB' => ?_⟩
  · have e2 : (X.map slv).set k (.slice (some ⟨g', 0, none⟩) (x.L.length + 1) c') = (X.set k ⟨g', c', x.L ++ [e]⟩).map slv := by
      rw [List.map_set]; simp [slv]
    rw [← e2, List.length_set]; exact hst
  · refine List.pairwise_iff_getElem.2 fun i j hi hj hij => ?_
    simp only [List.length_map, List.length_set] at hi hj
    simp only [List.getElem_map, List.getElem_set]
    have hnd := List.pairwise_iff_getElem.1 h.r.apart i j (by simpa using hi) (by simpa using hj) hij
    simp only [List.getElem_map] at hnd
    have hgi := hrowsne i X[i]
    have hgj := hrowsne j X[j]
    have hsi := (h.r.rows X[i] (List.getElem_mem hi)).2.2.1
    have hsj := (h.r.rows X[j] (List.getElem_mem hj)).2.2.1
    by_cases h1 : k = i
    · by_cases h2 : k = j
      · omega
      · rw [if_pos h1, if_neg h2]
        have := hgj (fun e => h2 e.symm) (List.getElem?_eq_getElem hj)
        show g' ≠ _
        rcases hg' with h3 | h3
        · exact fun e4 => this (e4.symm.trans h3)
        · omega
    · by_cases h2 : k = j
      · rw [if_neg h1, if_pos h2]
        have := hgi (fun e => h1 e.symm) (List.getElem?_eq_getElem hi)
        show _ ≠ g'
        rcases hg' with h3 | h3
        · exact fun e4 => this (e4.trans h3)
        · omega
      · rw [if_neg h1, if_neg h2]; exact hnd
  · have := hown1.cellAt k (by omega)
    rw [this, List.getElem?_map, hx]; rfl
  · have hj1 : j ≠ g := fun e => hB' (.inl (by simp [Value.ownBlock, e]))
    refine ⟨(hoth j hj1).trans (hk j hj (by simp [slv, Value.ownBlock]; exact fun e => hB' (.inr ⟨x, hxm, e.symm⟩))), ?_⟩
    rintro (h1 | ⟨y, hy, rfl⟩)
    · exact hB' (.inl h1)
    · rcases List.mem_or_eq_of_mem_set hy with h1 | rfl
      · exact hB' (.inr ⟨y, h1, rfl⟩)
      · rcases hg' with h1 | h1
        · exact hB' (.inr ⟨x, hxm, h1⟩)
        · have : g' < w.heap.size := hj
          omega


end HB
end Go.Proofs.Ytipdfmedbcafpaa
