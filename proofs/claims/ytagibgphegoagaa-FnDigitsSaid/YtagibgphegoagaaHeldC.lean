/- Lists of structs of two numbers that grow by append, and answers that are such a list. Written by heldgen.py. -/
import Derived.Test.YtagibgphegoagaaRecs
import Derived.Deep.RegionWith
import Derived.OwnWalk
import Derived.Maps.AppendAt
import Derived.Laws.MakeOwn
namespace Go.Proofs.Ytagibgphegoagaa
open Go.RowKit

/-- v is a list of the call's own, above base, and not nil. -/
def HeldC (base : Nat) (w : World) (v : Value) (L : List (Int × Int)) : Prop := w.ownsRow base 39 2 v L.length (recs L) ∧ ∃ g c, v = .slice (some ⟨g, 0, none⟩) L.length c

theorem infoC : (Try.prog.info? 39).map (fun i => (i.zero, i.size, i.bytes)) = some (some (.agg #[.int .i64 0, .int .i64 0]), 2, 16) := by kernel_rfl

theorem HeldC.lower {base base' : Nat} {w : World} {v : Value} {L : List (Int × Int)} (h : HeldC base w v L) (hB : base' ≤ base) : HeldC base' w v L := by
  refine ⟨⟨h.1.1, ?_⟩, h.2⟩
  rcases h.1.2 with hn | ⟨j, cap, cur, rfl, h1, hg, rest⟩
  · exact .inl hn
  · exact .inr ⟨j, cap, cur, rfl, by omega, hg, rest⟩
theorem HeldC.start (w : World) (base : Nat) (hb : base ≤ w.heap.size) : HeldC base (w.alloc (.cells #[] 39)) (.slice (some ⟨w.heap.size, 0, none⟩) 0 0) [] :=
  HeldC.lower ⟨World.ownsRow_made w #[] 0 (Nat.le_refl _) (by decide) rfl, _, _, rfl⟩ hb
theorem HeldC.row {base : Nat} {w : World} {v : Value} {L : List (Int × Int)} (h : HeldC base w v L) : ∃ g c, v = .slice (some ⟨g, 0, none⟩) L.length c ∧ base ≤ g ∧ L.length ≤ c ∧ CellRow w g (recs L) := by
  obtain ⟨h1, g, c, rfl⟩ := h
  obtain ⟨a, b, d⟩ := CellRow.of_own h1
  exact ⟨g, c, rfl, a, b, d⟩
theorem HeldC.flat {base : Nat} {w : World} {v : Value} {L : List (Int × Int)} (h : HeldC base w v L) : FlatAt w v L.length (recs L) := by
  obtain ⟨g, c, rfl, _, hc, hr⟩ := h.row
  exact hr.flat hc
theorem HeldC.alloc {base : Nat} {w : World} {v : Value} {L : List (Int × Int)} (h : HeldC base w v L) (o : Obj) : HeldC base (w.alloc o) v L := ⟨World.ownsRow.alloc h.1 _, h.2⟩
theorem HeldC.same {base : Nat} {w w' : World} {v : Value} {L : List (Int × Int)} (h : HeldC base w v L) (hb : ∀ k, k < w.heap.size → base ≤ k → w'.heap[k]? = w.heap[k]?) (_hs : w.heap.size ≤ w'.heap.size) : HeldC base w' v L := by
  obtain ⟨h1, h2⟩ := h
  have hlt := h1.lt
  refine ⟨⟨h1.1, ?_⟩, h2⟩
  rcases h1.2 with hn | ⟨j, cap, cur, rfl, hj, hg, rest⟩
  · exact .inl hn
  · have := hlt j rfl
    exact .inr ⟨j, cap, cur, rfl, hj, (hb j this.2 hj).trans hg, rest⟩
theorem HeldC.below {base : Nat} {w w' : World} {v : Value} {L : List (Int × Int)} (h : HeldC base w v L) (hb : Below w.heap.size w w') : HeldC base w' v L := h.same (fun k hk _ => hb.block k hk) hb.size
theorem HeldC.but {base g : Nat} {w w' : World} {v : Value} {L : List (Int × Int)} (h : HeldC base w v L) (hb : But g w w') (hg : g < base) : HeldC base w' v L := h.same (fun k hk hj => hb.block k hk (by omega)) hb.size
theorem HeldC.drewN {base : Nat} {w : World} {v : Value} {L : List (Int × Int)} (h : HeldC base w v L) (n : Nat) : HeldC base (w.drewN n) v L := h.same (fun _ _ _ => rfl) (Nat.le_refl _)

theorem recs_cellC (l : List (Int × Int)) : ∀ u ∈ recs l, u.oneCell' = true := by
  intro u hu
  unfold recs at hu
  obtain ⟨p, _, hp⟩ := List.mem_flatMap.1 hu
  simp at hp
  rcases hp with rfl | rfl <;> rfl
theorem addC (b o j : Nat) : (⟨b, o, none⟩ : Addr).add j = ⟨b, o + j, none⟩ := by
  unfold Addr.add; split
  · rename_i h; subst h; rfl
  · rfl

/-- 'append(l, r)' of one struct that stands in block q. -/
theorem append1C (base q : Nat) (v : Value) (L : List (Int × Int)) (x y : Int) (W : World) (h : HeldC base W v L) (hq : RowIs W q 39 [.int .i64 x, .int .i64 y]) (hb : base ≤ W.heap.size) (hn : L.length ≤ 1048576) :
    ∃ v' w', (heldAppend #[28, 28] 28 #[v, .slice (some ⟨q, 0, none⟩) 1 1]).run Try.prog W = .ok v' w' ∧ HeldC base w' v' (L ++ [(x, y)]) ∧ Below base W w' := by
  obtain ⟨i0, hi, hz0, hz1, hz2⟩ := info_parts infoC
  obtain ⟨h, g, c, rfl⟩ := h
  obtain ⟨v', w', hrun, hown, hgrow, hnil⟩ := run_append_own (P := Try.prog) (w := W) base 28 28 39 i0 (.agg #[.int .i64 0, .int .i64 0]) 2 16 Try.underlying28 hi hz0 hz1 hz2 rfl (by decide)
    _ L.length (recs L) h ⟨q, 0, none⟩ 1 1 [.int .i64 x, .int .i64 y] rfl (fun j u hu => by rw [addC, Nat.zero_add, hq.cell j]; exact hu) (by simp [Value.oneCell']) (by unfold maxLen; omega) (by omega) hb
  have e1 : recs L ++ [.int .i64 x, .int .i64 y] = recs (L ++ [(x, y)]) := by rw [recs_append]; rfl
  rw [e1, ← show (L ++ [(x, y)]).length = L.length + 1 by simp] at hown
  refine ⟨v', w', hrun, ⟨hown, ?_⟩, (Below.refl base W).grown hgrow hb (fun j e => (h.lt j e).1)⟩
  rcases hown.2 with ⟨e, hz⟩ | ⟨g', cap, cur, e, _⟩
  · have := (hnil.1 e).1
    simp at this
  · exact ⟨g', cap, e⟩
theorem append1litC (base : Nat) (v : Value) (L : List (Int × Int)) (x y : Int) (w : World) (h : HeldC base w v L) (hb : base ≤ w.heap.size) (hn : L.length ≤ 1048576) :
    ∃ v' w', (heldAppend #[28, 28] 28 #[v, .slice (some ⟨w.heap.size, 0, none⟩) 1 1]).run Try.prog (w.alloc (.cells #[.int .i64 x, .int .i64 y] 39)) = .ok v' w' ∧ HeldC base w' v' (L ++ [(x, y)]) ∧ Below base w w' := by
  obtain ⟨v', w', h1, h2, h3⟩ := append1C base w.heap.size v L x y (w.alloc (.cells #[.int .i64 x, .int .i64 y] 39)) (h.alloc _) (heap_alloc_new w _) (by simp; omega) hn
  exact ⟨v', w', h1, h2, ((Below.refl base w).alloc hb _).trans h3⟩
theorem append1drewC (base : Nat) (v : Value) (L : List (Int × Int)) (x y : Int) (w : World) (h : HeldC base w v L) (hb : base ≤ w.heap.size) (hn : L.length ≤ 1048576) :
    ∃ v' w', (heldAppend #[28, 28] 28 #[v, .slice (some ⟨w.heap.size, 0, none⟩) 1 1]).run Try.prog (w.alloc (.cells #[.int .i64 x, .int .i64 y] 39)).drew = .ok v' w' ∧ HeldC base w' v' (L ++ [(x, y)]) ∧ Below base w w' := by
  obtain ⟨v', w', h1, h2, h3⟩ := append1C base w.heap.size v L x y (w.alloc (.cells #[.int .i64 x, .int .i64 y] 39)).drew ((h.alloc _).same (fun _ _ _ => rfl) (Nat.le_refl _)) (heap_alloc_new w _) (by show base ≤ (w.alloc _).heap.size; simp; omega) hn
  exact ⟨v', w', h1, h2, ((Below.refl base w).alloc hb _).trans (((Below.refl base _).drew).trans h3)⟩

/-- 'append(l, list...)' of the elements of another list. -/
theorem appendManyC (base : Nat) (v : Value) (L : List (Int × Int)) (b o c : Nat) (l : List (Int × Int)) (w : World) (h : HeldC base w v L) (hb : base ≤ w.heap.size) (hn : L.length + l.length ≤ 2097152)
    (hl : ∀ (j : Nat) u, (recs l)[j]? = some u → w.cell? ⟨b, o + j, none⟩ = some u) :
    ∃ v' w', (heldAppend #[28, 28] 28 #[v, .slice (some ⟨b, o, none⟩) l.length c]).run Try.prog w = .ok v' w' ∧ HeldC base w' v' (L ++ l) ∧ Below base w w' := by
  obtain ⟨i0, hi, hz0, hz1, hz2⟩ := info_parts infoC
  obtain ⟨h, g, cv, rfl⟩ := h
  obtain ⟨v', w', hrun, hown, hgrow, hnil⟩ := run_append_own (P := Try.prog) (w := w) base 28 28 39 i0 (.agg #[.int .i64 0, .int .i64 0]) 2 16 Try.underlying28 hi hz0 hz1 hz2 rfl (by decide)
    _ L.length (recs L) h ⟨b, o, none⟩ l.length c (recs l) (recs_length l) (fun j u hu => by rw [addC]; exact hl j u hu) (recs_cellC l) (by unfold maxLen; omega) (by omega) (by omega)
  rw [← recs_append L l, ← show (L ++ l).length = L.length + l.length by simp] at hown
  refine ⟨v', w', hrun, ⟨hown, ?_⟩, (Below.refl base w).grown hgrow (by omega) (fun j e => (h.lt j e).1)⟩
  rcases hown.2 with ⟨e, hz⟩ | ⟨g', cap, cur, e, _⟩
  · have := (hnil.1 e).1
    simp at this
  · exact ⟨g', cap, e⟩

/-- 'make([]T, 0, n)'. -/
theorem makeC (n : Nat) (hn : n ≤ 1048576) (w : World) (base : Nat) (hb : base ≤ w.heap.size) :
    ∃ w', (Instr.makeSlice 28 (.int .i64 0) (.int .i64 (n : Int))).run Try.prog w = .ok (.slice (some ⟨w.heap.size, 0, none⟩) 0 n) w' ∧ HeldC base w' (.slice (some ⟨w.heap.size, 0, none⟩) 0 n) [] ∧ Below base w w' := by
  obtain ⟨i0, hi, hz0, hz1, hz2⟩ := info_parts infoC
  obtain ⟨w', h1, h2, h3⟩ := run_make_own (P := Try.prog) w base 28 39 i0 (.agg #[.int .i64 0, .int .i64 0]) 2 Try.underlying28 hi hz0 hz1 .i64 .i64 n (by rw [hz2]; omega) (by unfold maxLen; omega) hb
  exact ⟨w', h1, ⟨h2, _, _, rfl⟩, (Below.refl base w).grown h3 hb (fun j e => by cases e)⟩

/-- A new list; with a bool; with a number and a bool. -/
def RowOfC (L : List (Int × Int)) (w : World) (e : Ending) (w' : World) : Prop :=
  ∃ g c, e = .returned (.slice (some ⟨g, 0, none⟩) L.length c) ∧ L.length ≤ c ∧ w.heap.size ≤ g ∧ CellRow w' g (recs L) ∧ Below w.heap.size w w'
def RetC (r : List (Int × Int) × Bool) (w : World) (e : Ending) (w' : World) : Prop :=
  ∃ g c, e = .returned (.tuple #[.slice (some ⟨g, 0, none⟩) r.1.length c, .bool r.2]) ∧ r.1.length ≤ c ∧ w.heap.size ≤ g ∧ CellRow w' g (recs r.1) ∧ Below w.heap.size w w'
def Ret1C (r : List (Int × Int) × Int × Bool) (w : World) (e : Ending) (w' : World) : Prop :=
  ∃ g c, e = .returned (.tuple #[.slice (some ⟨g, 0, none⟩) r.1.length c, .int .i64 r.2.1, .bool r.2.2]) ∧ r.1.length ≤ c ∧ w.heap.size ≤ g ∧ CellRow w' g (recs r.1) ∧ Below w.heap.size w w'
theorem RetC.none (w w1 : World) (hb : Below w.heap.size w w1) : RetC ([], false) w (.returned (.tuple #[.slice (some ⟨w1.heap.size, 0, none⟩) 0 0, .bool false])) (w1.alloc (.cells #[] 39)) :=
  ⟨w1.heap.size, 0, rfl, Nat.le_refl _, hb.size, ⟨by simp, fun j u hu => by simp [recs] at hu⟩, hb.alloc hb.size _⟩
theorem Ret1C.none (w w1 : World) (hb : Below w.heap.size w w1) : Ret1C ([], 0, false) w (.returned (.tuple #[.slice (some ⟨w1.heap.size, 0, none⟩) 0 0, .int .i64 0, .bool false])) (w1.alloc (.cells #[] 39)) :=
  ⟨w1.heap.size, 0, rfl, Nat.le_refl _, hb.size, ⟨by simp, fun j u hu => by simp [recs] at hu⟩, hb.alloc hb.size _⟩

end Go.Proofs.Ytagibgphegoagaa
