/- Answers that are a new list of numbers; lists that grow by append. -/
import Derived.Test.YthmcjmjkmmbepaaInts
import Derived.Test.YthmcjmjkmmbepaaIntS
import Derived.Deep.RegionWith
import Derived.OwnWalk
import Derived.Maps.AppendAt
namespace Go.Proofs.Ythmcjmjkmmbepaa
open Go.RowKit

/-- A new list and a bool. -/
def RetI (r : List Int × Bool) (w : World) (e : Ending) (w' : World) : Prop :=
  ∃ g c, e = .returned (.tuple #[.slice (some ⟨g, 0, none⟩) r.1.length c, .bool r.2]) ∧ r.1.length ≤ c ∧ w.heap.size ≤ g ∧ CellRow w' g (ints r.1) ∧ Below w.heap.size w w'
/-- A new list. -/
def RowI (L : List Int) (w : World) (e : Ending) (w' : World) : Prop :=
  ∃ g c, e = .returned (.slice (some ⟨g, 0, none⟩) L.length c) ∧ L.length ≤ c ∧ w.heap.size ≤ g ∧ CellRow w' g (ints L) ∧ Below w.heap.size w w'

theorem RetI.none (w w1 : World) (hb : Below w.heap.size w w1) : RetI ([], false) w (.returned (.tuple #[.slice (some ⟨w1.heap.size, 0, none⟩) 0 0, .bool false])) (w1.alloc (.cells #[] 3)) :=
  ⟨w1.heap.size, 0, rfl, Nat.le_refl _, hb.size, ⟨by simp, fun j u hu => by simp [ints] at hu⟩, hb.alloc hb.size _⟩

/-- v is a list of the call's own, above base, and not nil. -/
def Held (base : Nat) (w : World) (v : Value) (L : List Int) : Prop := w.ownsRow base 3 1 v L.length (ints L) ∧ ∃ g c, v = .slice (some ⟨g, 0, none⟩) L.length c

theorem infoIntH : (Try.prog.info? 3).map (fun i => (i.zero, i.size, i.bytes)) = some (some (.int .i64 0), 1, 8) := by kernel_rfl

theorem Held.lower {base base' : Nat} {w : World} {v : Value} {L : List Int} (h : Held base w v L) (hB : base' ≤ base) : Held base' w v L := by
  refine ⟨⟨h.1.1, ?_⟩, h.2⟩
  rcases h.1.2 with hn | ⟨j, cap, cur, rfl, h1, hg, rest⟩
  · exact .inl hn
  · exact .inr ⟨j, cap, cur, rfl, by omega, hg, rest⟩
theorem Held.start (w : World) (base : Nat) (hb : base ≤ w.heap.size) : Held base (w.alloc (.cells #[] 3)) (.slice (some ⟨w.heap.size, 0, none⟩) 0 0) [] :=
  Held.lower ⟨World.ownsRow_made w #[] 0 (Nat.le_refl _) (by decide) rfl, _, _, rfl⟩ hb
theorem Held.row {base : Nat} {w : World} {v : Value} {L : List Int} (h : Held base w v L) : ∃ g c, v = .slice (some ⟨g, 0, none⟩) L.length c ∧ base ≤ g ∧ L.length ≤ c ∧ CellRow w g (ints L) := by
  obtain ⟨h1, g, c, rfl⟩ := h
  obtain ⟨a, b, d⟩ := CellRow.of_own h1
  exact ⟨g, c, rfl, a, b, d⟩
theorem Held.flat {base : Nat} {w : World} {v : Value} {L : List Int} (h : Held base w v L) : FlatAt w v L.length (ints L) := by
  obtain ⟨g, c, rfl, _, hc, hr⟩ := h.row
  exact hr.flat hc
theorem Held.alloc {base : Nat} {w : World} {v : Value} {L : List Int} (h : Held base w v L) (o : Obj) : Held base (w.alloc o) v L := ⟨World.ownsRow.alloc h.1 _, h.2⟩
theorem Held.same {base : Nat} {w w' : World} {v : Value} {L : List Int} (h : Held base w v L) (hb : ∀ k, k < w.heap.size → base ≤ k → w'.heap[k]? = w.heap[k]?) (_hs : w.heap.size ≤ w'.heap.size) : Held base w' v L := by
  obtain ⟨h1, h2⟩ := h
  have hlt := h1.lt
  refine ⟨⟨h1.1, ?_⟩, h2⟩
  rcases h1.2 with hn | ⟨j, cap, cur, rfl, hj, hg, rest⟩
  · exact .inl hn
  · have := hlt j rfl
    exact .inr ⟨j, cap, cur, rfl, hj, (hb j this.2 hj).trans hg, rest⟩
theorem Held.own {base : Nat} {w w' : World} {v : Value} {L : List Int} (h : Held base w v L) (hb : ∀ g c, v = .slice (some ⟨g, 0, none⟩) L.length c → g < w.heap.size → w'.heap[g]? = w.heap[g]?) : Held base w' v L := by
  obtain ⟨h1, g0, c0, rfl⟩ := h
  have hlt := h1.lt g0 rfl
  refine ⟨⟨h1.1, ?_⟩, g0, c0, rfl⟩
  rcases h1.2 with ⟨hn, _⟩ | ⟨j, cap, cur, e, hj, hg, rest⟩
  · simp at hn
  · simp at e
    obtain ⟨rfl, rfl⟩ := e
    exact .inr ⟨g0, c0, cur, rfl, hj, (hb g0 c0 rfl hlt.2).trans hg, rest⟩
theorem Held.below {base : Nat} {w w' : World} {v : Value} {L : List Int} (h : Held base w v L) (hb : Below w.heap.size w w') : Held base w' v L := h.same (fun k hk _ => hb.block k hk) hb.size

/-- 'append(l, n)' of one number. -/
theorem appendOne2 (base : Nat) (v : Value) (L : List Int) (x : Int) (w : World) (h : Held base w v L) (hb : base ≤ w.heap.size) (hn : L.length ≤ 1048576) :
    ∃ v' w', (heldAppend #[34, 34] 34 #[v, .slice (some ⟨w.heap.size, 0, none⟩) 1 1]).run Try.prog (w.alloc (.cells #[.int .i64 x] 3)) = .ok v' w' ∧
      Held base w' v' (L ++ [x]) ∧ Below base w w' ∧ ∀ k, k < w.heap.size → (∀ g n c, v = .slice (some ⟨g, 0, none⟩) n c → k ≠ g) → w'.heap[k]? = w.heap[k]? := by
  obtain ⟨i0, hi, hz0, hz1, hz2⟩ := info_parts infoIntH
  obtain ⟨h, g, c, rfl⟩ := h
  obtain ⟨v', w', hrun, hown, hgrow, hnil⟩ := run_append_own (P := Try.prog) (w := w.alloc (.cells #[.int .i64 x] 3)) base 34 34 3 i0 (.int .i64 0) 1 8 Try.underlying34 hi hz0 hz1 hz2 rfl (by decide)
    _ L.length (ints L) (World.ownsRow.alloc h _) ⟨w.heap.size, 0, none⟩ 1 1 [.int .i64 x] rfl (cell_one_new w _ _) (by simp [Value.oneCell']) (by unfold maxLen; omega) (by omega) (by simp; omega)
  rw [show [Value.int .i64 x] = ints [x] from rfl, ← ints_append L [x], ← show (L ++ [x]).length = L.length + 1 by simp] at hown
  refine ⟨v', w', hrun, ⟨hown, ?_⟩, ((Below.refl base w).alloc hb _).grown hgrow (by simp; omega) (fun j e => (h.lt j e).1), fun k hk hne => (hgrow.block k (by simp; omega) (fun e => hne g L.length c rfl (by simpa [Value.ownBlock] using e))).trans (heap_alloc_old w _ hk)⟩
  rcases hown.2 with ⟨e, hz⟩ | ⟨g', cap, cur, e, _⟩
  · have := (hnil.1 e).1
    simp at this
  · exact ⟨g', cap, e⟩
theorem appendOne (base : Nat) (v : Value) (L : List Int) (x : Int) (w : World) (h : Held base w v L) (hb : base ≤ w.heap.size) (hn : L.length ≤ 1048576) :
    ∃ v' w', (heldAppend #[34, 34] 34 #[v, .slice (some ⟨w.heap.size, 0, none⟩) 1 1]).run Try.prog (w.alloc (.cells #[.int .i64 x] 3)) = .ok v' w' ∧
      Held base w' v' (L ++ [x]) ∧ Below base w w' := by
  obtain ⟨v', w', h1, h2, h3, _⟩ := appendOne2 base v L x w h hb hn
  exact ⟨v', w', h1, h2, h3⟩

theorem ints_one (l : List Int) : ∀ u ∈ ints l, u.oneCell' = true := by
  intro u hu
  unfold ints at hu
  obtain ⟨p, _, rfl⟩ := List.mem_map.1 hu
  rfl

/-- 'append(l, list...)' of the elements of another list. -/
theorem appendMany (base : Nat) (v : Value) (L : List Int) (b o c : Nat) (l : List Int) (w : World) (h : Held base w v L) (hb : base ≤ w.heap.size) (hn : L.length + l.length ≤ 2097152)
    (hl : ∀ (j : Nat) u, (ints l)[j]? = some u → w.cell? ⟨b, o + j, none⟩ = some u) :
    ∃ v' w', (heldAppend #[34, 34] 34 #[v, .slice (some ⟨b, o, none⟩) l.length c]).run Try.prog w = .ok v' w' ∧
      Held base w' v' (L ++ l) ∧ Below base w w' := by
  obtain ⟨i0, hi, hz0, hz1, hz2⟩ := info_parts infoIntH
  obtain ⟨h, g, cv, rfl⟩ := h
  obtain ⟨v', w', hrun, hown, hgrow, hnil⟩ := run_append_own (P := Try.prog) (w := w) base 34 34 3 i0 (.int .i64 0) 1 8 Try.underlying34 hi hz0 hz1 hz2 rfl (by decide)
    _ L.length (ints L) h ⟨b, o, none⟩ l.length c (ints l) (by rw [ints_length, Nat.mul_one]) (fun j u hu => by
      have e : (⟨b, o, none⟩ : Addr).add j = ⟨b, o + j, none⟩ := by
        unfold Addr.add; split
        · rename_i h; subst h; rfl
        · rfl
      rw [e]; exact hl j u hu) (ints_one l) (by unfold maxLen; omega) (by omega) (by omega)
  rw [← ints_append L l, ← show (L ++ l).length = L.length + l.length by simp] at hown
  refine ⟨v', w', hrun, ⟨hown, ?_⟩, (Below.refl base w).grown hgrow (by omega) (fun j e => (h.lt j e).1)⟩
  rcases hown.2 with ⟨e, hz⟩ | ⟨g', cap, cur, e, _⟩
  · have := (hnil.1 e).1
    simp at this
  · exact ⟨g', cap, e⟩

/-- A part of a list, in a new list: 'append([]int{}, l[:k]...)'. -/
theorem copyFront (gl c k : Nat) (L : List Int) (W : World) (h : CellRow W gl (ints L)) (hk : k ≤ L.length) (hn : L.length ≤ 1048576) :
    ∃ v1 w1, (heldAppend #[34, 34] 34 #[.slice (some ⟨W.heap.size, 0, none⟩) 0 0, .slice (some ⟨gl, 0, none⟩) k c]).run Try.prog (W.alloc (.cells #[] 3)).drew = .ok v1 w1 ∧
      Held W.heap.size w1 v1 (L.take k) ∧ Below W.heap.size W w1 := by
  have hst : Held W.heap.size (W.alloc (.cells #[] 3)).drew (.slice (some ⟨W.heap.size, 0, none⟩) 0 0) [] := (Held.start W W.heap.size (Nat.le_refl _)).same (fun _ _ _ => rfl) (Nat.le_refl _)
  have hb0 : Below W.heap.size W (W.alloc (.cells #[] 3)).drew := ((Below.refl _ _).alloc (Nat.le_refl _) _).trans ((Below.refl _ _).drew)
  have hl : (L.take k).length = k := by rw [List.length_take]; omega
  obtain ⟨v1, w1, h1, h2, h3⟩ := appendMany W.heap.size _ [] gl 0 c (L.take k) _ hst hb0.size (by simp; omega) (fun j u hu => by
    rw [Nat.zero_add]
    have hj := (List.getElem?_eq_some_iff.1 hu).1
    rw [ints_length, hl] at hj
    have hu2 : (ints L)[j]? = some u := by unfold ints at hu ⊢; rw [List.getElem?_map, List.getElem?_take_of_lt hj] at hu; rw [List.getElem?_map]; exact hu
    exact (hb0.cell (p := ⟨gl, j, none⟩) h.1).trans (h.2 j u hu2).1)
  rw [hl] at h1
  exact ⟨v1, w1, h1, by simpa using h2, hb0.trans h3⟩
/-- And the rest of it behind. -/
theorem copyBack (base gl o c k m : Nat) (v : Value) (M L : List Int) (W w : World) (h : CellRow W gl (ints L)) (hH : Held base w v M) (_hW : W.heap.size ≤ base) (hb : base ≤ w.heap.size) (hbel : Below W.heap.size W w)
    (hm : m = L.length - k) (ho : k < L.length → o = k) (hn : M.length + L.length ≤ 2097152) :
    ∃ v2 w2, (heldAppend #[34, 34] 34 #[v, .slice (some ⟨gl, o, none⟩) m c]).run Try.prog w = .ok v2 w2 ∧
      Held base w2 v2 (M ++ L.drop k) ∧ Below base w w2 := by
  have hl : (L.drop k).length = m := by rw [List.length_drop]; omega
  obtain ⟨v2, w2, h1, h2, h3⟩ := appendMany base v M gl o c (L.drop k) w hH hb (by omega) (fun j u hu => by
    have hj := (List.getElem?_eq_some_iff.1 hu).1
    rw [ints_length, hl] at hj
    rw [ho (by omega)]
    have hu2 : (ints L)[k + j]? = some u := by unfold ints at hu ⊢; rw [List.getElem?_map, List.getElem?_drop] at hu; rw [List.getElem?_map]; exact hu
    exact (hbel.cell (p := ⟨gl, k + j, none⟩) h.1).trans (h.2 _ u hu2).1)
  rw [hl] at h1
  exact ⟨v2, w2, h1, h2, h3⟩

end Go.Proofs.Ythmcjmjkmmbepaa
