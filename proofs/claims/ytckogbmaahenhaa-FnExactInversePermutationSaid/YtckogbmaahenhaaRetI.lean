/- Answers that are a new list of numbers; lists that grow by append. -/
import Derived.Test.YtckogbmaahenhaaInts
import Derived.Test.YtckogbmaahenhaaIntS
import Derived.Deep.RegionWith
import Derived.OwnWalk
import Derived.Maps.AppendAt
namespace Go.Proofs.Ytckogbmaahenhaa
open Go.RowKit

/-- A new list and a bool. -/
def RetI (r : List Int × Bool) (w : World) (e : Ending) (w' : World) : Prop :=
  ∃ g c, e = .returned (.tuple #[.slice (some ⟨g, 0, none⟩) r.1.length c, .bool r.2]) ∧ r.1.length ≤ c ∧ w.heap.size ≤ g ∧ CellRow w' g (ints r.1) ∧ Below w.heap.size w w'
/-- A new list. -/
def RowI (L : List Int) (w : World) (e : Ending) (w' : World) : Prop :=
  ∃ g c, e = .returned (.slice (some ⟨g, 0, none⟩) L.length c) ∧ L.length ≤ c ∧ w.heap.size ≤ g ∧ CellRow w' g (ints L) ∧ Below w.heap.size w w'

theorem RetI.none (w w1 : World) (hb : Below w.heap.size w w1) : RetI ([], false) w (.returned (.tuple #[.slice (some ⟨w1.heap.size, 0, none⟩) 0 0, .bool false])) (w1.alloc (.cells #[] 3)) :=
  ⟨w1.heap.size, 0, rfl, Nat.le_refl _, hb.size, ⟨by simp, fun j u hu => by simp [ints] at hu⟩, hb.alloc hb.size _⟩

/-- v is a list of the call's own, above base, and not nil. -/
def Held (base : Nat) (w : World) (v : Value) (L : List Int) : Prop := w.ownsRow base 3 1 v L.length (ints L) ∧ ∃ g c, v = .slice (some ⟨g, 0, none⟩) L.length c

theorem infoIntH : (Try.prog.info? 3).map (fun i => (i.zero, i.size, i.bytes)) = some (some (.int .i64 0), 1, 8) := by kernel_rfl

theorem Held.lower {base base' : Nat} {w : World} {v : Value} {L : List Int} (h : Held base w v L) (hB : base' ≤ base) : Held base' w v L := by
  refine ⟨⟨h.1.1, ?_⟩, h.2⟩
  rcases h.1.2 with hn | ⟨j, cap, cur, rfl, h1, hg, rest⟩
  · exact .inl hn
  · exact .inr ⟨j, cap, cur, rfl, by omega, hg, rest⟩
theorem Held.start (w : World) (base : Nat) (hb : base ≤ w.heap.size) : Held base (w.alloc (.cells #[] 3)) (.slice (some ⟨w.heap.size, 0, none⟩) 0 0) [] :=
  Held.lower ⟨World.ownsRow_made w #[] 0 (Nat.le_refl _) (by decide) rfl, _, _, rfl⟩ hb
theorem Held.row {base : Nat} {w : World} {v : Value} {L : List Int} (h : Held base w v L) : ∃ g c, v = .slice (some ⟨g, 0, none⟩) L.length c ∧ base ≤ g ∧ L.length ≤ c ∧ CellRow w g (ints L) := by
  obtain ⟨h1, g, c, rfl⟩ := h
  obtain ⟨a, b, d⟩ := CellRow.of_own h1
  exact ⟨g, c, rfl, a, b, d⟩
theorem Held.flat {base : Nat} {w : World} {v : Value} {L : List Int} (h : Held base w v L) : FlatAt w v L.length (ints L) := by
  obtain ⟨g, c, rfl, _, hc, hr⟩ := h.row
  exact hr.flat hc
theorem Held.alloc {base : Nat} {w : World} {v : Value} {L : List Int} (h : Held base w v L) (o : Obj) : Held base (w.alloc o) v L := ⟨World.ownsRow.alloc h.1 _, h.2⟩
theorem Held.same {base : Nat} {w w' : World} {v : Value} {L : List Int} (h : Held base w v L) (hb : ∀ k, k < w.heap.size → base ≤ k → w'.heap[k]? = w.heap[k]?) (_hs : w.heap.size ≤ w'.heap.size) : Held base w' v L := by
  obtain ⟨h1, h2⟩ := h
  have hlt := h1.lt
  refine ⟨⟨h1.1, ?_⟩, h2⟩
  rcases h1.2 with hn | ⟨j, cap, cur, rfl, hj, hg, rest⟩
  · exact .inl hn
  · have := hlt j rfl
    exact .inr ⟨j, cap, cur, rfl, hj, (hb j this.2 hj).trans hg, rest⟩
theorem Held.below {base : Nat} {w w' : World} {v : Value} {L : List Int} (h : Held base w v L) (hb : Below w.heap.size w w') : Held base w' v L := h.same (fun k hk _ => hb.block k hk) hb.size

/-- 'append(l, n)' of one number. -/
theorem appendOne (base : Nat) (v : Value) (L : List Int) (x : Int) (w : World) (h : Held base w v L) (hb : base ≤ w.heap.size) (hn : L.length ≤ 1048576) :
    ∃ v' w', (heldAppend #[24, 24] 24 #[v, .slice (some ⟨w.heap.size, 0, none⟩) 1 1]).run Try.prog (w.alloc (.cells #[.int .i64 x] 3)) = .ok v' w' ∧
      Held base w' v' (L ++ [x]) ∧ Below base w w' := by
  obtain ⟨i0, hi, hz0, hz1, hz2⟩ := info_parts infoIntH
  obtain ⟨h, g, c, rfl⟩ := h
  obtain ⟨v', w', hrun, hown, hgrow, hnil⟩ := run_append_own (P := Try.prog) (w := w.alloc (.cells #[.int .i64 x] 3)) base 24 24 3 i0 (.int .i64 0) 1 8 Try.underlying24 hi hz0 hz1 hz2 rfl (by decide)
    _ L.length (ints L) (World.ownsRow.alloc h _) ⟨w.heap.size, 0, none⟩ 1 1 [.int .i64 x] rfl (cell_one_new w _ _) (by simp [Value.oneCell']) (by unfold maxLen; omega) (by omega) (by simp; omega)
  rw [show [Value.int .i64 x] = ints [x] from rfl, ← ints_append L [x], ← show (L ++ [x]).length = L.length + 1 by simp] at hown
  refine ⟨v', w', hrun, ⟨hown, ?_⟩, ((Below.refl base w).alloc hb _).grown hgrow (by simp; omega) (fun j e => (h.lt j e).1)⟩
  rcases hown.2 with ⟨e, hz⟩ | ⟨g', cap, cur, e, _⟩
  · have := (hnil.1 e).1
    simp at this
  · exact ⟨g', cap, e⟩

theorem ints_one (l : List Int) : ∀ u ∈ ints l, u.oneCell' = true := by
  intro u hu
  unfold ints at hu
  obtain ⟨p, _, rfl⟩ := List.mem_map.1 hu
  rfl

/-- 'append(l, list...)' of the elements of another list. -/
theorem appendMany (base : Nat) (v : Value) (L : List Int) (b o c : Nat) (l : List Int) (w : World) (h : Held base w v L) (hb : base ≤ w.heap.size) (hn : L.length + l.length ≤ 2097152)
    (hl : ∀ (j : Nat) u, (ints l)[j]? = some u → w.cell? ⟨b, o + j, none⟩ = some u) :
    ∃ v' w', (heldAppend #[24, 24] 24 #[v, .slice (some ⟨b, o, none⟩) l.length c]).run Try.prog w = .ok v' w' ∧
      Held base w' v' (L ++ l) ∧ Below base w w' := by
  obtain ⟨i0, hi, hz0, hz1, hz2⟩ := info_parts infoIntH
  obtain ⟨h, g, cv, rfl⟩ := h
  obtain ⟨v', w', hrun, hown, hgrow, hnil⟩ := run_append_own (P := Try.prog) (w := w) base 24 24 3 i0 (.int .i64 0) 1 8 Try.underlying24 hi hz0 hz1 hz2 rfl (by decide)
    _ L.length (ints L) h ⟨b, o, none⟩ l.length c (ints l) (by rw [ints_length, Nat.mul_one]) (fun j u hu => by
      have e : (⟨b, o, none⟩ : Addr).add j = ⟨b, o + j, none⟩ := by
        unfold Addr.add; split
        · rename_i h; subst h; rfl
        · rfl
      rw [e]; exact hl j u hu) (ints_one l) (by unfold maxLen; omega) (by omega) (by omega)
  rw [← ints_append L l, ← show (L ++ l).length = L.length + l.length by simp] at hown
  refine ⟨v', w', hrun, ⟨hown, ?_⟩, (Below.refl base w).grown hgrow (by omega) (fun j e => (h.lt j e).1)⟩
  rcases hown.2 with ⟨e, hz⟩ | ⟨g', cap, cur, e, _⟩
  · have := (hnil.1 e).1
    simp at this
  · exact ⟨g', cap, e⟩

end Go.Proofs.Ytckogbmaahenhaa
