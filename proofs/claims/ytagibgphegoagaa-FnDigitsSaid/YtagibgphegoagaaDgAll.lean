/- InsC Stable SortF StF StR Among Code RadA IRecs RetCE IDist CloneI SortT Ident IInvI DrawDg DrawI IDof RetN0 PosP ISortP ISort DrawR IRad4 SCs PosL Arr DrawAR ISortQ DrawCs ISp, as one text. -/
import Derived.Test.YtagibgphegoagaaHeldC
import Derived.Test.YtagibgphegoagaaOkR
import Derived.Test.YtagibgphegoagaaStabI
import Derived.Test.YtagibgphegoagaaList
import Derived.Test.YtagibgphegoagaaSyF
import Derived.Shelf.SlSortCmp.Insertion
import Derived.Test.YtagibgphegoagaaSyR
import Derived.Test.YtagibgphegoagaaPick
import Derived.Test.YtagibgphegoagaaRadP
import Derived.Test.YtagibgphegoagaaFlagP
import Derived.Test.YtagibgphegoagaaStabPos
import Derived.Test.YtagibgphegoagaaSortD
import Derived.Test.YtagibgphegoagaaCfR
import Derived.Test.YtagibgphegoagaaIList
import Derived.Test.YtagibgphegoagaaRetI
import Derived.Test.YtagibgphegoagaaIBkt
import Derived.Test.YtagibgphegoagaaRecS
import Derived.Test.YtagibgphegoagaaIntS
import Derived.Lib.SliceRun
import Derived.BigQuiet
import Derived.Deep.QuietTactic
import Derived.Test.YtagibgphegoagaaPerm
import Derived.Test.YtagibgphegoagaaSets
import Derived.Laws.BitsLemmas
import Derived.Test.YtagibgphegoagaaIPermV
import Derived.Deep.CutRange
import Derived.Deep.LoopGhost
import Derived.Test.YtagibgphegoagaaInts
import Derived.OwnWalk
import Derived.Maps.AppendAt
import Derived.Test.YtagibgphegoagaaIDig
import Derived.Test.YtagibgphegoagaaCmpK
import Derived.Test.YtagibgphegoagaaRecs
import Derived.Test.YtagibgphegoagaaOwnFlat
import Derived.Deep.RegionWith
import Derived.Test.YtagibgphegoagaaBoxD
import Derived.Test.YtagibgphegoagaaRng
import Derived.BigRegion

section
/- 'append(append(append([]Record{}, l[:k]...), r), l[k:]...)': a record put into a list, in whatever order its parts are laid. -/
namespace Go.Proofs.Ytagibgphegoagaa
open Go.RowKit
set_option linter.unusedVariables false

/-- 'append(l, list...)', told of every block. -/
theorem appendManyC2 (base : Nat) (v : Value) (L : List (Int × Int)) (b o c : Nat) (l : List (Int × Int)) (w : World) (h : HeldC base w v L) (hb : base ≤ w.heap.size) (hn : L.length + l.length ≤ 2097152)
    (hl : ∀ (j : Nat) u, (recs l)[j]? = some u → w.cell? ⟨b, o + j, none⟩ = some u) :
    ∃ v' w', (heldAppend #[28, 28] 28 #[v, .slice (some ⟨b, o, none⟩) l.length c]).run Try.prog w = .ok v' w' ∧
      HeldC base w' v' (L ++ l) ∧ Below base w w' ∧ ∀ k, k < w.heap.size → (∀ g n c, v = .slice (some ⟨g, 0, none⟩) n c → k ≠ g) → w'.heap[k]? = w.heap[k]? := by
  obtain ⟨i0, hi, hz0, hz1, hz2⟩ := info_parts infoC
  obtain ⟨h, g, cv, rfl⟩ := h
  obtain ⟨v', w', hrun, hown, hgrow, hnil⟩ := run_append_own (P := Try.prog) (w := w) base 28 28 39 i0 (.agg #[.int .i64 0, .int .i64 0]) 2 16 Try.underlying28 hi hz0 hz1 hz2 rfl (by decide)
    _ L.length (recs L) h ⟨b, o, none⟩ l.length c (recs l) (recs_length l) (fun j u hu => by rw [addC]; exact hl j u hu) (recs_cellC l) (by unfold maxLen; omega) (by omega) (by omega)
  rw [← recs_append L l, ← show (L ++ l).length = L.length + l.length by simp] at hown
  refine ⟨v', w', hrun, ⟨hown, ?_⟩, (Below.refl base w).grown hgrow (by omega) (fun j e => (h.lt j e).1), fun k hk hne => hgrow.block k hk (fun e => hne g L.length cv rfl (by simpa [Value.ownBlock] using e))⟩
  rcases hown.2 with ⟨e, hz⟩ | ⟨g', cap, cur, e, _⟩
  · have := (hnil.1 e).1
    simp at this
  · exact ⟨g', cap, e⟩

theorem recs_takeC (L : List (Int × Int)) (m : Nat) {j : Nat} {u : Value} (h : (recs (L.take m))[j]? = some u) : (recs L)[j]? = some u := by
  have e : recs L = recs (L.take m) ++ recs (L.drop m) := by rw [← recs_append, List.take_append_drop]
  rw [e, List.getElem?_append_left (List.getElem?_eq_some_iff.1 h).1]; exact h
theorem recs_dropC (L : List (Int × Int)) (m : Nat) (hm : m ≤ L.length) {j : Nat} {u : Value} (h : (recs (L.drop m))[j]? = some u) : (recs L)[m * 2 + j]? = some u := by
  have e : recs L = recs (L.take m) ++ recs (L.drop m) := by rw [← recs_append, List.take_append_drop]
  have hl : (recs (L.take m)).length = m * 2 := by rw [recs_length, List.length_take, Nat.min_eq_left hm]
  rw [e, List.getElem?_append_right (by omega), hl, show m * 2 + j - m * 2 = j by omega]; exact h

/-- The three appends, the literals laid ahead of them: e the empty one, xb the one of the record. -/
theorem insertAtC (e xb gl c k o c' m : Nat) (x y : Int) (L : List (Int × Int)) (base : Nat) (V : World) (hE : HeldC base V (.slice (some ⟨e, 0, none⟩) 0 0) []) (hX : V.cell? ⟨xb, 0, none⟩ = some (.int .i64 x)) (hY : V.cell? ⟨xb, 1, none⟩ = some (.int .i64 y)) (hxe : xb ≠ e) (hxV : xb < V.heap.size)
    (hbV : base ≤ V.heap.size) (h : CellRow V gl (recs L)) (hgl : gl < base) (hk : k ≤ L.length) (hn : L.length ≤ 1000000) (hm : m = L.length - k) (ho : k < L.length → o = k * 2) :
    ∃ v1 w1 v2 w2 v3 w3, (heldAppend #[28, 28] 28 #[.slice (some ⟨e, 0, none⟩) 0 0, .slice (some ⟨gl, 0, none⟩) k c]).run Try.prog V = .ok v1 w1 ∧
      (heldAppend #[28, 28] 28 #[v1, .slice (some ⟨xb, 0, none⟩) 1 1]).run Try.prog w1 = .ok v2 w2 ∧
      (heldAppend #[28, 28] 28 #[v2, .slice (some ⟨gl, o, none⟩) m c']).run Try.prog w2 = .ok v3 w3 ∧
      HeldC base w3 v3 (L.take k ++ [(x, y)] ++ L.drop k) ∧ Below base V w3 ∧ Below base V w1 := by
  have hl : (L.take k).length = k := by rw [List.length_take]; omega
  have hl2 : (L.drop k).length = m := by rw [List.length_drop]; omega
  obtain ⟨v1, w1, r1, h1, b1, k1⟩ := appendManyC2 base _ [] gl 0 c (L.take k) V hE hbV (by simp; omega) (fun j u hu => by
    rw [Nat.zero_add]
    exact (h.2 j u (recs_takeC L k hu)).1)
  rw [hl] at r1
  rw [List.nil_append] at h1
  have hX1 : w1.cell? ⟨xb, 0, none⟩ = some (.int .i64 x) := by
    rw [World.cell?_of_block (w := V) (k1 xb hxV (fun g n c e' => by simp at e'; omega))]; exact hX
  have hY1 : w1.cell? ⟨xb, 1, none⟩ = some (.int .i64 y) := by
    rw [World.cell?_of_block (w := V) (k1 xb hxV (fun g n c e' => by simp at e'; omega))]; exact hY
  obtain ⟨v2, w2, r2, h2, b2, _⟩ := appendManyC2 base v1 (L.take k) xb 0 1 [(x, y)] w1 h1 (Nat.le_trans hbV b1.size) (by simp; omega) (fun j u hu => by
    match j, hu with
    | 0, hu => simp [recs] at hu; subst hu; exact hX1
    | 1, hu => simp [recs] at hu; subst hu; exact hY1
    | j + 2, hu => simp [recs] at hu)
  have b12 := b1.trans b2
  obtain ⟨v3, w3, r3, h3, b3, _⟩ := appendManyC2 base v2 (L.take k ++ [(x, y)]) gl o c' (L.drop k) w2 h2 (Nat.le_trans hbV b12.size) (by simp; omega) (fun j u hu => by
    have hj := (List.getElem?_eq_some_iff.1 hu).1
    rw [recs_length, hl2] at hj
    rw [ho (by omega)]
    exact (b12.cell (p := ⟨gl, k * 2 + j, none⟩) hgl).trans (h.2 _ u (recs_dropC L k hk hu)).1)
  rw [hl2] at r3
  exact ⟨v1, w1, v2, w2, v3, w3, r1, by simpa using r2, r3, h3, b12.trans b3, b1⟩

/-- And the one of the record laid behind the first append. -/
theorem insertLateC (gl c k o c' m : Nat) (x y : Int) (L : List (Int × Int)) (W : World) (h : CellRow W gl (recs L)) (hk : k ≤ L.length) (hn : L.length ≤ 1000000) (hm : m = L.length - k) (ho : k < L.length → o = k * 2) :
    ∃ v1 w1 v2 w2 v3 w3, (heldAppend #[28, 28] 28 #[.slice (some ⟨W.heap.size, 0, none⟩) 0 0, .slice (some ⟨gl, 0, none⟩) k c]).run Try.prog (W.alloc (.cells #[] 39)).drew = .ok v1 w1 ∧
      (heldAppend #[28, 28] 28 #[v1, .slice (some ⟨w1.heap.size, 0, none⟩) 1 1]).run Try.prog (w1.alloc (.cells #[.int .i64 x, .int .i64 y] 39)) = .ok v2 w2 ∧
      (heldAppend #[28, 28] 28 #[v2, .slice (some ⟨gl, o, none⟩) m c']).run Try.prog w2 = .ok v3 w3 ∧
      HeldC W.heap.size w3 v3 (L.take k ++ [(x, y)] ++ L.drop k) ∧ Below W.heap.size W w3 ∧ Below W.heap.size W w1 := by
  have hl : (L.take k).length = k := by rw [List.length_take]; omega
  have hl2 : (L.drop k).length = m := by rw [List.length_drop]; omega
  have hb0 : Below W.heap.size W (W.alloc (.cells #[] 39)).drew := ((Below.refl _ _).alloc (Nat.le_refl _) _).trans ((Below.refl _ _).drew)
  obtain ⟨v1, w1, r1, h1, b1, _⟩ := appendManyC2 W.heap.size _ [] gl 0 c (L.take k) (W.alloc (.cells #[] 39)).drew ((HeldC.start W W.heap.size (Nat.le_refl _)).same (fun _ _ _ => rfl) (Nat.le_refl _)) hb0.size (by simp; omega) (fun j u hu => by
    rw [Nat.zero_add]
    exact (hb0.cell (p := ⟨gl, j, none⟩) h.1).trans (h.2 j u (recs_takeC L k hu)).1)
  rw [hl] at r1
  rw [List.nil_append] at h1
  have B1 := hb0.trans b1
  obtain ⟨v2, w2, r2, h2, b2⟩ := append1litC W.heap.size v1 (L.take k) x y w1 h1 B1.size (by omega)
  obtain ⟨v3, w3, r3, h3, b3, _⟩ := appendManyC2 W.heap.size v2 (L.take k ++ [(x, y)]) gl o c' (L.drop k) w2 h2 (Nat.le_trans B1.size b2.size) (by simp; omega) (fun j u hu => by
    have hj := (List.getElem?_eq_some_iff.1 hu).1
    rw [recs_length, hl2] at hj
    rw [ho (by omega)]
    exact ((B1.trans b2).cell (p := ⟨gl, k * 2 + j, none⟩) h.1).trans (h.2 _ u (recs_dropC L k hk hu)).1)
  rw [hl2] at r3
  exact ⟨v1, w1, v2, w2, v3, w3, r1, r2, r3, h3, (B1.trans b2).trans b3, B1⟩

/-- All three ways: the literals in either order, or one behind the first append. -/
structure InsertsC (gl c k o c' m : Nat) (x y : Int) (L : List (Int × Int)) (W : World) (v3 v3' v3'' : Value) (w3 w3' w3'' : World) (v1 v1' v1'' v2 v2' v2'' : Value) (w1 w1' w1'' w2 w2' w2'' : World) : Prop where
  a1 : (heldAppend #[28, 28] 28 #[.slice (some ⟨W.heap.size, 0, none⟩) 0 0, .slice (some ⟨gl, 0, none⟩) k c]).run Try.prog (W.alloc (.cells #[] 39)).drew = .ok v1 w1
  a2 : (heldAppend #[28, 28] 28 #[v1, .slice (some ⟨w1.heap.size, 0, none⟩) 1 1]).run Try.prog (w1.alloc (.cells #[.int .i64 x, .int .i64 y] 39)) = .ok v2 w2
  a3 : (heldAppend #[28, 28] 28 #[v2, .slice (some ⟨gl, o, none⟩) m c']).run Try.prog w2 = .ok v3 w3
  b1 : (heldAppend #[28, 28] 28 #[.slice (some ⟨W.heap.size, 0, none⟩) 0 0, .slice (some ⟨gl, 0, none⟩) k c]).run Try.prog ((W.alloc (.cells #[] 39)).alloc (.cells #[.int .i64 x, .int .i64 y] 39)).drew = .ok v1' w1'
  b2 : (heldAppend #[28, 28] 28 #[v1', .slice (some ⟨W.heap.size + 1, 0, none⟩) 1 1]).run Try.prog w1' = .ok v2' w2'
  b3 : (heldAppend #[28, 28] 28 #[v2', .slice (some ⟨gl, o, none⟩) m c']).run Try.prog w2' = .ok v3' w3'
  c1 : (heldAppend #[28, 28] 28 #[.slice (some ⟨W.heap.size + 1, 0, none⟩) 0 0, .slice (some ⟨gl, 0, none⟩) k c]).run Try.prog ((W.alloc (.cells #[.int .i64 x, .int .i64 y] 39)).alloc (.cells #[] 39)).drew = .ok v1'' w1''
  c2 : (heldAppend #[28, 28] 28 #[v1'', .slice (some ⟨W.heap.size, 0, none⟩) 1 1]).run Try.prog w1'' = .ok v2'' w2''
  c3 : (heldAppend #[28, 28] 28 #[v2'', .slice (some ⟨gl, o, none⟩) m c']).run Try.prog w2'' = .ok v3'' w3''
  ha : HeldC W.heap.size w3 v3 (L.take k ++ [(x, y)] ++ L.drop k) ∧ Below W.heap.size W w3
  hb : HeldC W.heap.size w3' v3' (L.take k ++ [(x, y)] ++ L.drop k) ∧ Below W.heap.size W w3'
  hc : HeldC W.heap.size w3'' v3'' (L.take k ++ [(x, y)] ++ L.drop k) ∧ Below W.heap.size W w3''
  late : Below W.heap.size W w1

theorem insertsC (gl c k o c' m : Nat) (x y : Int) (L : List (Int × Int)) (W : World) (h : CellRow W gl (recs L)) (hk : k ≤ L.length) (hn : L.length ≤ 1000000) (hm : m = L.length - k) (ho : k < L.length → o = k * 2) :
    ∃ v3 v3' v3'' w3 w3' w3'' v1 v1' v1'' v2 v2' v2'' w1 w1' w1'' w2 w2' w2'', InsertsC gl c k o c' m x y L W v3 v3' v3'' w3 w3' w3'' v1 v1' v1'' v2 v2' v2'' w1 w1' w1'' w2 w2' w2'' := by
  obtain ⟨v1, w1, v2, w2, v3, w3, a1, a2, a3, a4, a5, a6⟩ := insertLateC gl c k o c' m x y L W h hk hn hm ho
  have hbB : Below W.heap.size W ((W.alloc (.cells #[] 39)).alloc (.cells #[.int .i64 x, .int .i64 y] 39)).drew := (((Below.refl _ _).alloc (Nat.le_refl _) _).alloc (by simp) _).trans ((Below.refl _ _).drew)
  have hbC : Below W.heap.size W ((W.alloc (.cells #[.int .i64 x, .int .i64 y] 39)).alloc (.cells #[] 39)).drew := (((Below.refl _ _).alloc (Nat.le_refl _) _).alloc (by simp) _).trans ((Below.refl _ _).drew)
  have rowB : RowIs ((W.alloc (.cells #[] 39)).alloc (.cells #[.int .i64 x, .int .i64 y] 39)).drew (W.heap.size + 1) 39 [.int .i64 x, .int .i64 y] := by
    have := heap_alloc_new (W.alloc (.cells #[] 39)) (.cells #[.int .i64 x, .int .i64 y] 39)
    rw [World.size_alloc] at this
    exact this
  have rowC0 : RowIs (W.alloc (.cells #[.int .i64 x, .int .i64 y] 39)) W.heap.size 39 [.int .i64 x, .int .i64 y] := heap_alloc_new W _
  have rowC : RowIs ((W.alloc (.cells #[.int .i64 x, .int .i64 y] 39)).alloc (.cells #[] 39)).drew W.heap.size 39 [.int .i64 x, .int .i64 y] :=
    rowC0.below (((Below.refl (W.heap.size + 1) _).alloc (by simp) _).trans ((Below.refl _ _).drew)) (by omega)
  obtain ⟨v1', w1', v2', w2', v3', w3', b1, b2, b3, b4, b5, _⟩ := insertAtC W.heap.size (W.heap.size + 1) gl c k o c' m x y L W.heap.size ((W.alloc (.cells #[] 39)).alloc (.cells #[.int .i64 x, .int .i64 y] 39)).drew
    (((HeldC.start W W.heap.size (Nat.le_refl _)).alloc (.cells #[.int .i64 x, .int .i64 y] 39)).same (fun _ _ _ => rfl) (Nat.le_refl _))
    ((rowB.cell 0).trans rfl) ((rowB.cell 1).trans rfl) (by omega) (by show W.heap.size + 1 < _; simp [World.drew]) hbB.size (h.below hbB h.1) h.1 hk hn hm ho
  obtain ⟨v1'', w1'', v2'', w2'', v3'', w3'', c1, c2, c3, c4, c5, _⟩ := insertAtC (W.heap.size + 1) W.heap.size gl c k o c' m x y L W.heap.size ((W.alloc (.cells #[.int .i64 x, .int .i64 y] 39)).alloc (.cells #[] 39)).drew
    ((by have := HeldC.start (W.alloc (.cells #[.int .i64 x, .int .i64 y] 39)) W.heap.size (by simp); simpa using this : HeldC W.heap.size ((W.alloc (.cells #[.int .i64 x, .int .i64 y] 39)).alloc (.cells #[] 39)) (.slice (some ⟨W.heap.size + 1, 0, none⟩) 0 0) []).same (fun _ _ _ => rfl) (Nat.le_refl _))
    ((rowC.cell 0).trans rfl) ((rowC.cell 1).trans rfl) (by omega) (by show W.heap.size < _; simp [World.drew]; omega) hbC.size (h.below hbC h.1) h.1 hk hn hm ho
  exact ⟨_, _, _, _, _, _, _, _, _, _, _, _, _, _, _, _, _, _, a1, a2, a3, b1, b2, b3, c1, c2, c3, ⟨a4, a5⟩, ⟨b4, hbB.trans b5⟩, ⟨c4, hbC.trans c5⟩, a6⟩

end Go.Proofs.Ytagibgphegoagaa
end

section
/- The model's stable arrangement (l2Stable), by its contract. -/
namespace Go.Proofs.Ytagibgphegoagaa
open Go.RowKit

attribute [local go_sem ↓ high] builtin_append_held

set_option maxRecDepth 100000 in
set_option maxHeartbeats 2000000 in
theorem l2Stable_any (b o c : Nat) (l : List (Int × Int)) (w : World) (hv : FlatAt w (.slice (some ⟨b, o, none⟩) l.length c) l.length (recs l)) (hn : l.length ≤ 1048576) :
    Calls Try.prog 83 #[.slice (some ⟨b, o, none⟩) l.length c] w (StableC l w) := by
  obtain ⟨g, cap, w1, hrun, hcap, hg, hrow, hb1⟩ := appendRecs b o c l w hv hn
  have HROW := Lib.hid hrow
  have HB1 := Lib.hid hb1
  have HG := Lib.hid hg
  clear hv hrow hb1 hg
  go_enter Try.func83, Try.ntmps83
  go_wp2_with fail
  go_loopw [4] (fun i wr => ∃ (n : Nat) (L : List (Int × Int)), 1 ≤ n ∧ (n ≤ l.length ∨ n = 1) ∧ i = .int .i64 n ∧ L.length = l.length ∧ CellRow wr g (recs L) ∧ Stab.Same (·.1) l L ∧ Stab.Asc (·.1) L n ∧ But g w1 wr) (fun i _ => l.length - (intOf i).toNat)
  case atStart => exact ⟨1, l, Nat.le_refl _, .inr rfl, rfl, rfl, HROW.out, fun _ => rfl, Stab.Asc.one l, But.refl _ _⟩
  case round =>
    obtain ⟨n, L, h1n, hnl, rfl, hL, hrow, hsame, hasc, hb⟩ := hrel
    have HR := Lib.hid hrow
    have HS := Lib.hid hsame
    have HA := Lib.hid hasc
    have HB := Lib.hid hb
    clear hrow hsame hasc hb
    by_cases hlt : n < l.length
    · go_wp2_with fail
      go_loopw [5] (fun k ws => ∃ (j : Nat) (M : List (Int × Int)), j ≤ n ∧ k = .int .i64 j ∧ M.length = l.length ∧ CellRow ws g (recs M) ∧ Stab.Same (·.1) l M ∧ Stab.Up (·.1) M n j ∧ But g w1 ws) (fun k _ => (intOf k).toNat)
      case atStart => exact ⟨n, L, Nat.le_refl _, rfl, hL, HR.out, HS.out, Stab.Up.start HA.out, HB.out⟩
      case round =>
        obtain ⟨j, M, hjn, rfl, hM, hrow, hsame, hup, hb⟩ := hrel
        have HR2 := Lib.hid hrow
        have HS2 := Lib.hid hsame
        have HU2 := Lib.hid hup
        have HB2 := Lib.hid hb
        clear hrow hsame hup hb
        cases j with
        | zero =>
          have HA2 : Hid (Stab.Asc (·.1) M (n + 1)) := Lib.hid (Stab.Up.stop0 HU2.out)
          go_wp2_with fail
          go_quiet (fail)
          go_wp2_with fail
          go_roundw
          case rel => exact ⟨n + 1, M, by omega, .inl (by omega), by go_num, hM, HR2.out.same rfl (Nat.le_refl _), HS2.out, HA2.out, HB2.out.drewN _⟩
          case measure => simp [intOf]; omega
        | succ j =>
          have hj : j < M.length := by omega
          have hj1 : j + 1 < M.length := by omega
          obtain ⟨u, hu⟩ : ∃ u, M[j]? = some u := ⟨_, List.getElem?_eq_getElem hj⟩
          obtain ⟨v, hv⟩ : ∃ v, M[j + 1]? = some v := ⟨_, List.getElem?_eq_getElem hj1⟩
          obtain ⟨hu1, hu2⟩ := recs_at hu
          obtain ⟨hv1, hv2⟩ := recs_at hv
          obtain ⟨hcu1, _⟩ := HR2.out.2 _ _ hu1
          obtain ⟨hcv1, _⟩ := HR2.out.2 _ _ hv1
          have HU := Lib.hid hu
          have HV := Lib.hid hv
          clear hu hv hu1 hu2 hv1 hv2
          by_cases hgt : v.1 < u.1
          · go_wp2_with fail
            go_quiet (fail)
            obtain ⟨wq, hq⟩ : ∃ wq, wq = wr.drewN nq := ⟨_, rfl⟩
            rw [← hq]
            have HR3 : Hid (CellRow wq g (recs M)) := Lib.hid (by rw [hq]; exact HR2.out.same rfl (Nat.le_refl _))
            have HB3 : Hid (But g w1 wq) := Lib.hid (by rw [hq]; exact HB2.out.drewN _)
            clear hq hcu1 hcv1 HR2 HB2
            obtain ⟨hu1, hu2⟩ := recs_at HU.out
            obtain ⟨hv1, hv2⟩ := recs_at HV.out
            obtain ⟨hcu1, hfu1⟩ := HR3.out.2 _ _ hu1
            obtain ⟨hcu2, hfu2⟩ := HR3.out.2 _ _ hu2
            obtain ⟨hcv1, hfv1⟩ := HR3.out.2 _ _ hv1
            obtain ⟨hcv2, hfv2⟩ := HR3.out.2 _ _ hv2
            have hgl := HR3.out.1
            clear hu1 hu2 hv1 hv2
            go_wp2_with fail
            go_roundw
            case rel =>
              have hsz := recs_length M
              have hrow : CellRow ((((wq.setCell ⟨g, j * 2, none⟩ (.int .i64 v.1)).setCell ⟨g, j * 2 + 1, none⟩ (.int .i64 v.2)).setCell ⟨g, (j + 1) * 2, none⟩ (.int .i64 u.1)).setCell ⟨g, (j + 1) * 2 + 1, none⟩ (.int .i64 u.2)) g (recs (Stab.swap M j u v)) := by
                unfold Stab.swap
                rw [← recs_set (M.set j v) (j + 1) u (by rw [List.length_set]; exact hj1), ← recs_set M j v hj]
                exact (((HR3.out.set (j * 2) _ (by omega)).set (j * 2 + 1) _ (by simp; omega)).set ((j + 1) * 2) _ (by simp; omega)).set ((j + 1) * 2 + 1) _ (by simp; omega)
              exact ⟨j, Stab.swap M j u v, by omega, rfl, by rw [Stab.swap_length]; exact hM, hrow.same (heap_alloc_old _ _ hrow.1) (by simp), Stab.Same.swap HS2.out HU.out HV.out hgt, Stab.Up.step HU2.out hjn HU.out HV.out hgt,
                ((((HB3.out.setCell (j * 2) _).setCell (j * 2 + 1) _).setCell ((j + 1) * 2) _).setCell ((j + 1) * 2 + 1) _).trans (But.alloc g _ _)⟩
            case measure => simp [intOf]
          · have HA2 : Hid (Stab.Asc (·.1) M (n + 1)) := Lib.hid (Stab.Up.stop HU2.out hjn HU.out HV.out (by omega))
            go_wp2_with fail
            go_quiet (fail)
            go_wp2_with fail
            go_roundw
            case rel => exact ⟨n + 1, M, by omega, .inl (by omega), by go_num, hM, HR2.out.same rfl (Nat.le_refl _), HS2.out, HA2.out, HB2.out.drewN _⟩
            case measure => simp [intOf]; omega
    · have HO : Hid (Stab.Of (·.1) l L) := Lib.hid (Stab.Of.done HS.out (fun p q x y hp hq hx hy => HA.out p q x y hp (by
        rcases hnl with h | h
        · omega
        · omega) hx hy))
      go_wp2_with fail
      go_ret
      exact ⟨g, cap, L, rfl, hcap, HG.out, HR.out, HO.out, HB1.out.trans (HB.out.below HG.out HB1.out.size)⟩

end Go.Proofs.Ytagibgphegoagaa
end

section
/- The sorting permutation, and whether there is one. Nothing of the program. -/
namespace Go.Proofs.Ytagibgphegoagaa
open Go.RowKit P

/-- The sorting permutation, and whether there is one. -/
def sortF (l : List Int) : List Int × Bool := if OkL l then (sortTo l l.length, true) else ([], false)
theorem sortF_yes {l : List Int} (h : OkL l) : sortF l = (sortTo l l.length, true) := if_pos h
theorem sortF_no {l : List Int} (h : ¬ OkL l) : sortF l = ([], false) := if_neg h
theorem sortF_len (l : List Int) : (sortF l).1.length ≤ 1048576 := by
  unfold sortF; split
  · rename_i h; simp only [sortTo_length]; have := h.1; omega
  · simp

end Go.Proofs.Ytagibgphegoagaa
end

section
/- slices.SortStableFunc, its blocks and its passes (int). -/
namespace Go.Proofs.Ytagibgphegoagaa
open Go.Shelf Go.RowKit Go.Lib Go.Sort StC
variable {NN : Nat}

set_option maxHeartbeats 40000000 in
set_option maxRecDepth 1000000 in
theorem insertionF (cf : (Fin (NN + 1)) → (Fin (NN + 1)) → Int) (g : Nat) (cb : Array Value) (blk off cap : Nat) (d0 : Array (Fin (NN + 1))) (w0 : World) (R : RowK encF 1 w0 blk off d0) (hsz : d0.size < 4611686018427387904)
    (eg : ∀ args w, (callFunc g args).run Try.prog w = .ok (.enter g args) w) (hcmp : CmpF Try.prog g cb cf blk off d0.size w0)
    (d : Array (Fin (NN + 1))) (w : World) (hs0 : d.size = d0.size) (S : SWK encF 1 w0 blk off d w) (a b : Nat) (hab : a ≤ b) (hb : b ≤ d0.size) (az bz : Int) (haz : az = (a : Nat)) (hbz : bz = (b : Nat)) :
    Calls Try.prog 195 #[.slice (some ⟨blk, off, none⟩) d0.size cap, .int .i64 az, .int .i64 bz, .func (.func g) #[] cb] w fun e w' =>
      e = .returned (.tuple #[]) ∧ SWK encF 1 w0 blk off (insertionSort (ltOf cf) d a b) w' := by
  subst haz hbz
  have HC : Aside _ := hcmp
  have S0 : Aside (SWK encF 1 w0 blk off d w) := S
  have mixed : Try.prog.follows .mixedOrders = true := by kernel_rfl
  clear hcmp S
  go_enter Try.func195, Try.ntmps195
  go_wp2
  go_loopg [8] (b - a) (fun g1 vi wr => ∃ (i : Nat) (dk : Array (Fin (NN + 1))), vi = .int .i64 i ∧ a < i ∧ i ≤ b + 1 ∧ b + 1 - i ≤ g1 + 1 ∧ dk.size = d0.size ∧ Aside (SWK encF 1 w0 blk off dk wr) ∧ Hid (insOuter (ltOf cf) a b i dk = insOuter (ltOf cf) a b (a + 1) d))
  case atStart => exact ⟨a + 1, d, by go_num, by omega, by omega, by omega, hs0, S0, rfl⟩
  case round =>
    clear S0
    obtain ⟨i, dk, rfl, hai, hib, hg1, hsk, S1, HO⟩ := hrel
    by_cases hlt : i < b
    · have hltz : (i : Int) < (b : Int) := by omega
      go_wp2
      go_loopg [9] i (fun g2 vj wr2 => ∃ (j : Nat) (dj : Array (Fin (NN + 1))), vj = .int .i64 j ∧ a ≤ j ∧ j ≤ i ∧ j ≤ g2 ∧ dj.size = d0.size ∧ Aside (SWK encF 1 w0 blk off dj wr2) ∧ Hid (insInner (ltOf cf) a j dj = insInner (ltOf cf) a i dk))
      case atStart => exact ⟨i, dk, rfl, by omega, Nat.le_refl _, Nat.le_refl _, hsk, S1, rfl⟩
      case round =>
        clear S1
        obtain ⟨j, dj, rfl, haj, hji, hg2, hsj, S1, HI⟩ := hrel
        have out : (j ≤ a ∨ (ltOf cf) dj[j]! dj[j - 1]! = false) → Hid (insOuter (ltOf cf) a b (i + 1) dj = insOuter (ltOf cf) a b (a + 1) d) := fun hs => by
          show _ = _
          rw [← HO.out, insOuter_go _ _ _ _ _ hlt, ← HI.out, insInner_stop _ _ _ _ hs]
        have OUT : Aside _ := out
        clear out
        by_cases hja : a < j
        · have hjaz : (a : Int) < (j : Int) := by omega
          obtain ⟨jp, rfl⟩ : ∃ jp, j = jp + 1 := ⟨j - 1, by omega⟩
          have hjaz' : (a : Int) < (jp : Int) + 1 := by omega
          cases hL : (ltOf cf) dj[jp + 1]! dj[jp]! with
          | true =>
            have eap : ((jp : Int) + 1).toNat = jp + 1 := by omega
            have pap : (0 : Int) ≤ (jp : Int) + 1 := by omega
            have bap : (jp : Int) + 1 < (d0.size : Int) := by omega
            have rap : IntKind.i64.wrap ((jp : Int) + 1) = (jp : Int) + 1 := by rw [IntKind.wrap_i64]; omega
            have ecp : ((jp : Int)).toNat = jp := by omega
            have pcp : (0 : Int) ≤ (jp : Int) := by omega
            have bcp : (jp : Int) < (d0.size : Int) := by omega
            have rcp : IntKind.i64.wrap ((jp : Int)) = (jp : Int) := by rw [IntKind.wrap_i64]; omega
            obtain ⟨xp, hxp⟩ : ∃ x, x = dj[jp + 1]! := ⟨_, rfl⟩
            obtain ⟨yp, hyp⟩ : ∃ x, x = dj[jp]! := ⟨_, rfl⟩
            have lap0 : ∀ n os, (grow (wr.drewN n) os).cell? ⟨blk, off + (jp + 1), none⟩ = some (.int .i64 ((xp).val : Int)) := fun n os => by rw [hxp]; exact (cellsF (S1.out.grown n os) R hsj (jp + 1) (by omega)).1
            have lbp0 : ∀ n os, (grow (wr.drewN n) os).cell? ⟨blk, off + (jp), none⟩ = some (.int .i64 ((yp).val : Int)) := fun n os => by rw [hyp]; exact (cellsF (S1.out.grown n os) R hsj (jp) (by omega)).1
            have hcp := cmpF S1.out HC.out hsj xp yp
            have hvp : cf xp yp < 0 := by rw [hxp, hyp]; exact of_decide_eq_true hL
            have hdp : decide (cf xp yp < 0) = true := decide_eq_true hvp
            clear hxp hyp
            go_wp2_with fail
            go_quiet_grown (first | (go_at_fn g; refine Calls.grown_of (hcp _ _)))
            have S2 : Aside (SWK encF 1 w0 blk off dj (grow (wr.drewN nq) osq)) := S1.out.grown nq osq
            clear lap0 lbp0 hcp S1
            generalize grow (wr.drewN nq) osq = w2 at S2 ⊢
            clear nq osq

            go_wp2_with fail
            have eas : ((jp : Int) + 1).toNat = jp + 1 := by omega
            have pas : (0 : Int) ≤ (jp : Int) + 1 := by omega
            have bas : (jp : Int) + 1 < (d0.size : Int) := by omega
            have ras : IntKind.i64.wrap ((jp : Int) + 1) = (jp : Int) + 1 := by rw [IntKind.wrap_i64]; omega
            have ecs : ((jp : Int)).toNat = jp := by omega
            have pcs : (0 : Int) ≤ (jp : Int) := by omega
            have bcs : (jp : Int) < (d0.size : Int) := by omega
            have rcs : IntKind.i64.wrap ((jp : Int)) = (jp : Int) := by rw [IntKind.wrap_i64]; omega
            obtain ⟨xs, hxs⟩ : ∃ x, x = dj[jp + 1]! := ⟨_, rfl⟩
            obtain ⟨ys, hys⟩ : ∃ x, x = dj[jp]! := ⟨_, rfl⟩
            have S3 : Aside (SWK encF 1 w0 blk off (swp dj (jp + 1) (jp)) ((w2.setCell ⟨blk, off + (jp + 1), none⟩ (.int .i64 ((ys).val : Int))).setCell ⟨blk, off + (jp), none⟩ (.int .i64 ((xs).val : Int))).drew) := by rw [hxs, hys]; have h := S2.out.swapped R (jp + 1) (jp) (by omega) (by omega); rw [Nat.mul_one, Nat.mul_one] at h; exact h
            have has := cellsF S2.out.drew R hsj (jp + 1) (by omega)
            have hbs := cellsF S2.out.drew R hsj (jp) (by omega)
            have hds := cellsF S2.out R hsj (jp + 1) (by omega)
            have hes := cellsF S2.out R hsj (jp) (by omega)
            rw [← hxs] at has hds
            rw [← hys] at hbs hes
            obtain ⟨las0, fas0⟩ := has
            obtain ⟨lbs0, fbs0⟩ := hbs
            obtain ⟨lds0, fds0⟩ := hds
            obtain ⟨les0, fes0⟩ := hes
            have nes00 : ¬ (off + (jp) = off + (jp + 1)) := by omega
            clear S2 hxs hys
            go_wp2_with fail
            go_big_region_o
            clear las0 fas0 lbs0 fbs0 lds0 fds0 les0 fes0
            generalize ((w2.setCell ⟨blk, off + (jp + 1), none⟩ (.int .i64 ((ys).val : Int))).setCell ⟨blk, off + (jp), none⟩ (.int .i64 ((xs).val : Int))).drew = w3 at S3 ⊢
            go_wp2

            go_roundg jp
            case measure => omega
            case rel =>
              refine ⟨jp, swp dj (jp + 1) jp, by first | rfl | go_num | (congr 1; omega), by omega, by omega, Nat.le_refl _, by rw [size_swp]; exact hsj, S3, (show Hid _ from ?_)⟩
              show _ = _
              have := insInner_go (ltOf cf) a (jp + 1) dj hja (by simp only [Nat.add_sub_cancel]; exact hL)
              simp only [Nat.add_sub_cancel] at this
              rw [← HI.out, this]
          | false =>
            have eaq : ((jp : Int) + 1).toNat = jp + 1 := by omega
            have paq : (0 : Int) ≤ (jp : Int) + 1 := by omega
            have baq : (jp : Int) + 1 < (d0.size : Int) := by omega
            have raq : IntKind.i64.wrap ((jp : Int) + 1) = (jp : Int) + 1 := by rw [IntKind.wrap_i64]; omega
            have ecq : ((jp : Int)).toNat = jp := by omega
            have pcq : (0 : Int) ≤ (jp : Int) := by omega
            have bcq : (jp : Int) < (d0.size : Int) := by omega
            have rcq : IntKind.i64.wrap ((jp : Int)) = (jp : Int) := by rw [IntKind.wrap_i64]; omega
            obtain ⟨xq, hxq⟩ : ∃ x, x = dj[jp + 1]! := ⟨_, rfl⟩
            obtain ⟨yq, hyq⟩ : ∃ x, x = dj[jp]! := ⟨_, rfl⟩
            have laq0 : ∀ n os, (grow (wr.drewN n) os).cell? ⟨blk, off + (jp + 1), none⟩ = some (.int .i64 ((xq).val : Int)) := fun n os => by rw [hxq]; exact (cellsF (S1.out.grown n os) R hsj (jp + 1) (by omega)).1
            have lbq0 : ∀ n os, (grow (wr.drewN n) os).cell? ⟨blk, off + (jp), none⟩ = some (.int .i64 ((yq).val : Int)) := fun n os => by rw [hyq]; exact (cellsF (S1.out.grown n os) R hsj (jp) (by omega)).1
            have hcq := cmpF S1.out HC.out hsj xq yq
            have hvq : ¬ cf xq yq < 0 := by rw [hxq, hyq]; exact of_decide_eq_false hL
            have hdq : decide (cf xq yq < 0) = false := decide_eq_false hvq
            clear hxq hyq
            go_wp2_with fail
            go_quiet_grown (first | (go_at_fn g; refine Calls.grown_of (hcq _ _)))
            have S2 : Aside (SWK encF 1 w0 blk off dj (grow (wr.drewN nq) osq)) := S1.out.grown nq osq
            clear laq0 lbq0 hcq S1
            generalize grow (wr.drewN nq) osq = w2 at S2 ⊢
            clear nq osq

            go_wp2
            go_roundg (b - (i + 1))
            case measure => omega
            case rel => exact ⟨i + 1, dj, by go_num, by omega, by omega, by omega, hsj, S2, OUT.out (Or.inr (by simp only [Nat.add_sub_cancel]; exact hL))⟩
        · have hjaz : decide ((j : Int) > (a : Int)) = false := decide_eq_false (by omega)
          have hjaz' : ¬ (a : Int) < (j : Int) := by omega
          have S2 : Aside (SWK encF 1 w0 blk off dj wr.drew) := S1.out.drew
          clear S1
          go_wp2_with fail
          go_big_region_o
          all_goals go_wp2
          go_roundg (b - (i + 1))
          case measure => omega
          case rel => exact ⟨i + 1, dj, by go_num, by omega, by omega, by omega, hsj, S2, OUT.out (Or.inl (by omega))⟩
    · have hltz : ¬ (i : Int) < (b : Int) := by omega
      go_wp2
      go_end0
      refine ⟨rfl, ?_⟩
      unfold Sort.insertionSort
      rw [← HO.out, insOuter_stop _ _ _ _ _ hlt]
      exact S1.out

/-- One block. -/
theorem blockF (cf : (Fin (NN + 1)) → (Fin (NN + 1)) → Int) (hO : SWO (ltOf cf)) (g : Nat) (cb : Array Value) (blk off cap : Nat) (d0 : Array (Fin (NN + 1))) (w0 : World) (R : RowK encF 1 w0 blk off d0) (hsz : d0.size < 4611686018427387904)
    (eg : ∀ args w, (callFunc g args).run Try.prog w = .ok (.enter g args) w) (hcmp : CmpF Try.prog g cb cf blk off d0.size w0)
    (p l s : List (Fin (NN + 1))) (w : World) (hN : d0.size = p.length + l.length + s.length) (az bz : Int) (haz : az = (p.length : Nat)) (hbz : bz = (p.length + l.length : Nat)) (S : SWK encF 1 w0 blk off (p ++ l ++ s).toArray w) :
    Calls Try.prog 195 #[.slice (some ⟨blk, off, none⟩) d0.size cap, .int .i64 az, .int .i64 bz, .func (.func g) #[] cb] w fun e w' =>
      e = .returned (.tuple #[]) ∧ ∃ M, St (ltOf cf) l M ∧ SWK encF 1 w0 blk off (p ++ M ++ s).toArray w' := by
  obtain ⟨Y, h1, h2⟩ := insertion_parts hO p l s (a := p.length) (b := p.length + l.length) rfl rfl
  refine (insertionF cf g cb blk off cap d0 w0 R hsz eg hcmp (p ++ l ++ s).toArray w (by simp; omega) S p.length (p.length + l.length) (by omega) (by omega) az bz haz hbz).mono ?_
  rintro e w' ⟨he, hS⟩
  rw [h2] at hS
  exact ⟨he, Y, h1, hS⟩

set_option maxHeartbeats 40000000 in
set_option maxRecDepth 1000000 in
theorem stableF (cf : (Fin (NN + 1)) → (Fin (NN + 1)) → Int) (hO : SWO (ltOf cf)) (g : Nat) (cb : Array Value) (blk off cap : Nat) (d0 : Array (Fin (NN + 1))) (w0 : World) (R : RowK encF 1 w0 blk off d0) (hsz : d0.size < 4611686018427387904)
    (eg : ∀ args w, (callFunc g args).run Try.prog w = .ok (.enter g args) w) (hcmp : CmpF Try.prog g cb cf blk off d0.size w0) (hsm : d0.size ≤ 4294967296)
    (l : List (Fin (NN + 1))) (w : World) (hN : l.length = d0.size) (S : SWK encF 1 w0 blk off l.toArray w) :
    Calls Try.prog 185 #[.slice (some ⟨blk, off, none⟩) d0.size cap, .int .i64 (l.length : Nat), .func (.func g) #[] cb] w fun e w' =>
      e = .returned (.tuple #[]) ∧ ∃ M, St (ltOf cf) l M ∧ SWK encF 1 w0 blk off M.toArray w' := by
  have HBLK := Lib.hid (fun (w : World) (p l s : List (Fin (NN + 1))) hN az bz haz hbz S => blockF cf hO g cb blk off cap d0 w0 R hsz eg hcmp p l s w hN az bz haz hbz S)
  have HSYM := Lib.hid (symMergeF cf hO g cb blk off cap d0 w0 R hsz eg hcmp)
  have S0 : Aside (SWK encF 1 w0 blk off l.toArray w) := S
  have mixed : Try.prog.follows .mixedOrders = true := by kernel_rfl
  obtain ⟨N, hNN⟩ : ∃ N, N = l.length := ⟨_, rfl⟩
  have hN2 : N = d0.size := by omega
  rw [← hNN]
  have HNN := Lib.hid hNN
  have HN2 := Lib.hid hN2
  have bnd : N ≤ 4294967296 := by omega
  clear hcmp S hO hN hNN hN2
  go_enter Try.func185, Try.ntmps185
  go_wp2_with fail
  -- the blocks of twenty
  go_loopg [7, 8] N (fun kx s7 s8 wr => ∃ (t : Nat) (X : List (Fin (NN + 1))), s7 = .int .i64 (t * 20 : Nat) ∧ s8 = .int .i64 (t * 20 + 20 : Nat) ∧ t * 20 ≤ N ∧ N - t * 20 ≤ kx ∧ Aside (Upto (ltOf cf) 20 l l X t) ∧ Aside (SWK encF 1 w0 blk off X.toArray wr))
  case atStart => exact ⟨0, l, rfl, rfl, by omega, by omega, Upto.start rfl, S0⟩
  case round =>
    clear S0
    obtain ⟨t, X, rfl, rfl, htN, hkx, U, S1⟩ := hrel
    obtain ⟨a, ha⟩ : ∃ a, a = t * 20 := ⟨_, rfl⟩
    rw [← ha] at htN hkx ⊢
    have HA := Lib.hid ha
    have hXl : X.length = N := by rw [HNN.out]; exact U.out.1
    have HXL := Lib.hid hXl
    have hdrop : X.drop a = l.drop a := by rw [ha]; exact U.out.2.2
    have HDR := Lib.hid hdrop
    clear ha hXl hdrop
    have rab : IntKind.i64.wrap ((a : Int) + 20 + 20) = (a : Int) + 20 + 20 := by rw [IntKind.wrap_i64]; omega
    have ecast : (((a + 20 : Nat)) : Int) = (a : Int) + 20 := by omega
    by_cases hlt : a + 20 ≤ N
    · have hltz : (a : Int) + 20 ≤ (N : Int) := by omega
      have q := HBLK.out wr (X.take a) (seg X a 20) (X.drop (a + 20)) (by have := HXL.out; have := HN2.out; rw [seg_len]; simp; omega) a (a + 20 : Nat) (by have := HXL.out; simp; omega) (by have := HXL.out; rw [seg_len]; simp; omega) (by rw [← parts]; exact S1.out)
      have HQ := Lib.hid q
      clear q S1
      go_wp2_with fail
      refine (HQ.out).mono ?_
      rintro e w1 ⟨rfl, M, hM, S2⟩
      have U2 : Aside (Upto (ltOf cf) 20 l l (put X (t * 20) 20 M) (t + 1)) := U.out.step (by rw [← HA.out, ← HNN.out]; exact htN) (by
        have e : seg l (t * 20) 20 = seg X a 20 := by unfold seg; rw [← HA.out, HDR.out]
        rw [e]; exact hM)
      have S3 : Aside (SWK encF 1 w0 blk off (put X (t * 20) 20 M).toArray w1) := by show SWK encF 1 w0 blk off _ _; unfold put; rw [← HA.out]; exact S2
      clear HQ S2 hM U
      go_wp2
      go_roundg (N - (a + 20))
      case measure => omega
      case rel => exact ⟨t + 1, _, by have := HA.out; congr 1; omega, by have := HA.out; congr 1; omega, by have := HA.out; omega, by have := HA.out; omega, U2, S3⟩
    · have hltz : ¬ (a : Int) + 20 ≤ (N : Int) := by omega
      have q := HBLK.out wr (X.take a) (seg X a 20) (X.drop (a + 20)) (by have := HXL.out; have := HN2.out; rw [seg_len]; simp; omega) a N (by have := HXL.out; simp; omega) (by have := HXL.out; rw [seg_len]; simp; omega) (by rw [← parts]; exact S1.out)
      have HQ := Lib.hid q
      clear q S1
      go_wp2_with fail
      refine (HQ.out).mono ?_
      rintro e w1 ⟨rfl, M, hM, S2⟩
      have hB0 : Blocks (ltOf cf) 20 l (put X (t * 20) 20 M) := (U.out.step (by rw [← HA.out, ← HNN.out]; exact htN) (by
        have e : seg l (t * 20) 20 = seg X a 20 := by unfold seg; rw [← HA.out, HDR.out]
        rw [e]; exact hM)).blocks (by have := HA.out; have := HNN.out; omega)
      have S3 : Aside (SWK encF 1 w0 blk off (put X (t * 20) 20 M).toArray w1) := by show SWK encF 1 w0 blk off _ _; unfold put; rw [← HA.out]; exact S2
      have B0 : Aside (Blocks (ltOf cf) 20 l (put X (t * 20) 20 M)) := hB0
      generalize put X (t * 20) 20 M = W0 at B0 S3
      clear HQ S2 hM U hB0 HDR HXL HA rab ecast
      go_wp2
      -- the passes
      go_loopg [6] N (fun kx s6 wr => ∃ (bs : Nat) (W : List (Fin (NN + 1))), s6 = .int .i64 bs ∧ 1 ≤ bs ∧ bs ≤ 2 * N + 20 ∧ N - bs ≤ kx ∧ Aside (Blocks (ltOf cf) bs l W) ∧ Aside (SWK encF 1 w0 blk off W.toArray wr))
      case atStart => exact ⟨20, W0, rfl, by omega, by omega, by omega, B0, S3⟩
      case round =>
        clear B0 S3
        obtain ⟨bs, W, rfl, hb1, hb2, hkx2, B, S1⟩ := hrel
        have hWl : W.length = N := by rw [HNN.out]; exact B.out.1
        have HWL := Lib.hid hWl
        clear hWl
        have rbs : IntKind.i64.wrap (2 * (bs : Int)) = 2 * (bs : Int) := by rw [IntKind.wrap_i64]; omega
        have rbs2 : IntKind.i64.wrap ((bs : Int) * 2) = (bs : Int) * 2 := by rw [IntKind.wrap_i64]; omega
        by_cases hlt2 : bs < N
        · have hlt2z : (bs : Int) < (N : Int) := by omega
          go_wp2
          go_loopg [7, 8] N (fun ky s7 s8 wr => ∃ (t a : Nat) (X : List (Fin (NN + 1))), s7 = .int .i64 a ∧ s8 = .int .i64 (a + 2 * bs : Nat) ∧ a ≤ N ∧ N - a ≤ ky ∧ Hid (a = t * (2 * bs)) ∧ Aside (Upto (ltOf cf) (2 * bs) l W X t) ∧ Aside (SWK encF 1 w0 blk off X.toArray wr))
          case atStart => exact ⟨0, 0, W, rfl, by congr 1; omega, by omega, by omega, (show 0 = 0 * (2 * bs) by omega), Upto.start B.out.1, S1⟩
          case round =>
            clear S1
            obtain ⟨t, a, X, rfl, rfl, haN, hky, HA, U, S1⟩ := hrel
            have HXL : Hid (X.length = N) := Lib.hid (by rw [HNN.out]; exact U.out.1)
            have HDR : Hid (X.drop a = W.drop a) := Lib.hid (by rw [HA.out]; exact U.out.2.2)
            have ecast : ((a + 2 * bs : Nat) : Int) = (a : Int) + 2 * (bs : Int) := by omega
            have rab : IntKind.i64.wrap ((a : Int) + (bs : Int)) = (a : Int) + (bs : Int) := by rw [IntKind.wrap_i64]; omega
            have rab2 : IntKind.i64.wrap ((a : Int) + 2 * (bs : Int) + 2 * (bs : Int)) = (a : Int) + 2 * (bs : Int) + 2 * (bs : Int) := by rw [IntKind.wrap_i64]; omega
            rw [ecast]
            have hseg : seg X a bs ++ seg X (a + bs) bs = seg W (t * (2 * bs)) bs ++ seg W (t * (2 * bs) + bs) bs := by
              rw [← HA.out]; unfold seg
              rw [← List.drop_drop, ← List.drop_drop, HDR.out]
            have hparts : X = X.take a ++ seg X a bs ++ seg X (a + bs) bs ++ X.drop (a + 2 * bs) := by
              have := parts X a (2 * bs)
              rw [seg_two] at this
              rw [← List.append_assoc] at this
              exact this
            have hsort : (seg X a bs).Pairwise (fun a b => ltOf cf b a = false) ∧ (seg X (a + bs) bs).Pairwise (fun a b => ltOf cf b a = false) := by
              have e1 : seg X a bs = seg W (2 * t * bs) bs := by
                have e : a = 2 * t * bs := by rw [HA.out, ← Nat.mul_assoc, Nat.mul_comm t 2]
                unfold seg; rw [HDR.out, e]
              have e2 : seg X (a + bs) bs = seg W ((2 * t + 1) * bs) bs := by
                have e : a + bs = (2 * t + 1) * bs := by rw [HA.out, ← Nat.mul_assoc, Nat.mul_comm t 2, Nat.add_mul, Nat.one_mul]
                unfold seg; rw [← List.drop_drop, HDR.out, List.drop_drop, e]
              exact ⟨e1 ▸ (B.out.2 (2 * t)).sorted, e2 ▸ (B.out.2 (2 * t + 1)).sorted⟩
            have step : ∀ M, St (ltOf cf) (seg X a bs ++ seg X (a + bs) bs) M → Upto (ltOf cf) (2 * bs) l W (put X (t * (2 * bs)) (2 * bs) M) (t + 1) := fun M hM =>
              U.out.step (by rw [← HA.out, ← HNN.out]; exact haN) (B.out.pair t (by rw [← hseg]; exact hM))
            have STEP := Lib.hid step
            have HS := Lib.hid hsort
            have HP := Lib.hid hparts
            clear step hsort hparts hseg
            by_cases hfull : a + 2 * bs ≤ N
            · have hfz : (a : Int) + 2 * (bs : Int) ≤ (N : Int) := by omega
              have hsl : (seg X a bs).length = bs ∧ (seg X (a + bs) bs).length = bs := by have := HXL.out; constructor <;> rw [seg_len] <;> omega
              have q := HSYM.out (bs + bs) (X.take a) (seg X a bs) (seg X (a + bs) bs) (X.drop (a + 2 * bs)) wr (by omega) (by omega) (by omega) HS.out.1 HS.out.2 (by have := HXL.out; have := HN2.out; rw [hsl.1, hsl.2]; simp; omega) a ((a : Int) + (bs : Int)) ((a : Int) + 2 * (bs : Int)) (by have := HXL.out; simp; omega) (by have := HXL.out; rw [hsl.1]; simp; omega) (by have := HXL.out; rw [hsl.1, hsl.2]; simp; omega) (by rw [← HP.out]; exact S1.out)
              have HQ := Lib.hid q
              clear q S1 hsl
              go_wp2_with fail
              refine (HQ.out).mono ?_
              rintro e w1 ⟨rfl, M, hM, S2⟩
              have U2 := Lib.hid (STEP.out M hM)
              have S3 : Aside (SWK encF 1 w0 blk off (put X (t * (2 * bs)) (2 * bs) M).toArray w1) := by show SWK encF 1 w0 blk off _ _; unfold put; rw [← HA.out]; exact S2
              clear HQ S2 hM U
              go_wp2
              go_roundg (N - (a + 2 * bs))
              case measure => omega
              case rel => exact ⟨t + 1, a + 2 * bs, _, by first | rfl | go_num | (congr 1; omega), by first | rfl | go_num | (congr 1; omega), hfull, Nat.le_refl _, (show a + 2 * bs = (t + 1) * (2 * bs) by rw [HA.out, Nat.add_mul, Nat.one_mul]), U2.out, S3⟩
            · have hfz : ¬ (a : Int) + 2 * (bs : Int) ≤ (N : Int) := by omega
              have hend : l.length ≤ (t + 1) * (2 * bs) := by rw [Nat.add_mul, Nat.one_mul, ← HA.out, ← HNN.out]; omega
              have HEND := Lib.hid hend
              clear hend
              by_cases hm : a + bs < N
              · have hmz : (a : Int) + (bs : Int) < (N : Int) := by omega
                have hsl : (seg X a bs).length = bs ∧ (seg X (a + bs) bs).length = N - (a + bs) := by have := HXL.out; constructor <;> rw [seg_len] <;> omega
                have q := HSYM.out (bs + bs) (X.take a) (seg X a bs) (seg X (a + bs) bs) (X.drop (a + 2 * bs)) wr (by omega) (by omega) (by omega) HS.out.1 HS.out.2 (by have := HXL.out; have := HN2.out; rw [hsl.1, hsl.2]; simp; omega) a ((a : Int) + (bs : Int)) N (by have := HXL.out; simp; omega) (by have := HXL.out; rw [hsl.1]; simp; omega) (by have := HXL.out; rw [hsl.1, hsl.2]; simp; omega) (by rw [← HP.out]; exact S1.out)
                have HQ := Lib.hid q
                clear q S1 hsl
                go_wp2_with fail
                refine (HQ.out).mono ?_
                rintro e w1 ⟨rfl, M, hM, S2⟩
                have U2 := Lib.hid ((STEP.out M hM).blocks HEND.out)
                have S3 : Aside (SWK encF 1 w0 blk off (put X (t * (2 * bs)) (2 * bs) M).toArray w1) := by show SWK encF 1 w0 blk off _ _; unfold put; rw [← HA.out]; exact S2
                clear HQ S2 hM U
                go_wp2
                go_roundg (N - 2 * bs)
                case measure => omega
                case rel => exact ⟨2 * bs, _, by first | rfl | (congr 1; omega), by omega, by omega, Nat.le_refl _, U2.out, S3⟩
              · have hmz : ¬ (a : Int) + (bs : Int) < (N : Int) := by omega
                have U2 : Hid (Blocks (ltOf cf) (2 * bs) l X) := Lib.hid (by
                  have h0 : seg X (a + bs) bs = [] := seg_out _ _ (by have := HXL.out; omega)
                  have h1 := STEP.out (seg X a bs ++ seg X (a + bs) bs) (by rw [h0, List.append_nil]; exact St.self HS.out.1)
                  rw [← seg_two, ← HA.out, put_self] at h1
                  exact h1.blocks HEND.out)
                clear U
                go_wp2
                go_roundg (N - 2 * bs)
                case measure => omega
                case rel => exact ⟨2 * bs, X, by first | rfl | (congr 1; omega), by omega, by omega, Nat.le_refl _, U2.out, S1⟩
        · have hlt2z : ¬ (bs : Int) < (N : Int) := by omega
          go_wp2
          go_end0
          exact ⟨rfl, W, B.out.whole (by have := HNN.out; omega), S1.out⟩

theorem sortStableF (cf : (Fin (NN + 1)) → (Fin (NN + 1)) → Int) (hO : SWO (ltOf cf)) (g : Nat) (cb : Array Value) (blk off cap : Nat) (d0 : Array (Fin (NN + 1))) (w0 : World) (R : RowK encF 1 w0 blk off d0) (hsz : d0.size < 4611686018427387904)
    (eg : ∀ args w, (callFunc g args).run Try.prog w = .ok (.enter g args) w) (hcmp : CmpF Try.prog g cb cf blk off d0.size w0) (hsm : d0.size ≤ 4294967296)
    (l : List (Fin (NN + 1))) (w : World) (hN : l.length = d0.size) (S : SWK encF 1 w0 blk off l.toArray w) :
    Calls Try.prog 166 #[.slice (some ⟨blk, off, none⟩) d0.size cap, .func (.func g) #[] cb] w fun e w' =>
      e = .returned (.tuple #[]) ∧ ∃ M, St (ltOf cf) l M ∧ SWK encF 1 w0 blk off M.toArray w' := by
  have HQ := Lib.hid (stableF cf hO g cb blk off cap d0 w0 R hsz eg hcmp hsm l w hN S)
  have e : (d0.size : Int) = (l.length : Int) := by omega
  rw [← hN] at HQ ⊢
  clear hcmp S hO e hN
  go_enter Try.func166, Try.ntmps166
  go_wp2_with fail
  refine (HQ.out).mono ?_
  rintro e w1 ⟨rfl, M, hM, S2⟩
  have HM := Lib.hid hM
  have HS := Lib.hid S2
  clear hM S2
  go_wp2_with fail
  go_end0
  exact ⟨rfl, M, HM.out, HS.out⟩

end Go.Proofs.Ytagibgphegoagaa
end

section
/- slices.SortStableFunc, its blocks and its passes (loop.example/g00907/impl.Record). -/
namespace Go.Proofs.Ytagibgphegoagaa
open Go.Shelf Go.RowKit Go.Lib Go.Sort StC

set_option maxHeartbeats 40000000 in
set_option maxRecDepth 1000000 in
theorem insertionR (cf : (Int × Int) → (Int × Int) → Int) (g : Nat) (cb : Array Value) (blk off cap : Nat) (d0 : Array (Int × Int)) (w0 : World) (R : RowK encR 2 w0 blk off d0) (hsz : d0.size < 4611686018427387904)
    (eg : ∀ args w, (callFunc g args).run Try.prog w = .ok (.enter g args) w) (hcmp : CmpLays Try.prog g cb encR 2 cf blk off d0.size w0)
    (d : Array (Int × Int)) (w : World) (hs0 : d.size = d0.size) (S : SWK encR 2 w0 blk off d w) (a b : Nat) (hab : a ≤ b) (hb : b ≤ d0.size) (az bz : Int) (haz : az = (a : Nat)) (hbz : bz = (b : Nat)) :
    Calls Try.prog 186 #[.slice (some ⟨blk, off, none⟩) d0.size cap, .int .i64 az, .int .i64 bz, .func (.func g) #[] cb] w fun e w' =>
      e = .returned (.tuple #[]) ∧ SWK encR 2 w0 blk off (insertionSort (ltOf cf) d a b) w' := by
  subst haz hbz
  have HC : Aside _ := hcmp
  have S0 : Aside (SWK encR 2 w0 blk off d w) := S
  have mixed : Try.prog.follows .mixedOrders = true := by kernel_rfl
  clear hcmp S
  go_enter Try.func186, Try.ntmps186
  go_wp2
  go_loopg [8] (b - a) (fun g1 vi wr => ∃ (i : Nat) (dk : Array (Int × Int)), vi = .int .i64 i ∧ a < i ∧ i ≤ b + 1 ∧ b + 1 - i ≤ g1 + 1 ∧ dk.size = d0.size ∧ Aside (SWK encR 2 w0 blk off dk wr) ∧ Hid (insOuter (ltOf cf) a b i dk = insOuter (ltOf cf) a b (a + 1) d))
  case atStart => exact ⟨a + 1, d, by go_num, by omega, by omega, by omega, hs0, S0, rfl⟩
  case round =>
    clear S0
    obtain ⟨i, dk, rfl, hai, hib, hg1, hsk, S1, HO⟩ := hrel
    by_cases hlt : i < b
    · have hltz : (i : Int) < (b : Int) := by omega
      go_wp2
      go_loopg [9] i (fun g2 vj wr2 => ∃ (j : Nat) (dj : Array (Int × Int)), vj = .int .i64 j ∧ a ≤ j ∧ j ≤ i ∧ j ≤ g2 ∧ dj.size = d0.size ∧ Aside (SWK encR 2 w0 blk off dj wr2) ∧ Hid (insInner (ltOf cf) a j dj = insInner (ltOf cf) a i dk))
      case atStart => exact ⟨i, dk, rfl, by omega, Nat.le_refl _, Nat.le_refl _, hsk, S1, rfl⟩
      case round =>
        clear S1
        obtain ⟨j, dj, rfl, haj, hji, hg2, hsj, S1, HI⟩ := hrel
        have out : (j ≤ a ∨ (ltOf cf) dj[j]! dj[j - 1]! = false) → Hid (insOuter (ltOf cf) a b (i + 1) dj = insOuter (ltOf cf) a b (a + 1) d) := fun hs => by
          show _ = _
          rw [← HO.out, insOuter_go _ _ _ _ _ hlt, ← HI.out, insInner_stop _ _ _ _ hs]
        have OUT : Aside _ := out
        clear out
        by_cases hja : a < j
        · have hjaz : (a : Int) < (j : Int) := by omega
          obtain ⟨jp, rfl⟩ : ∃ jp, j = jp + 1 := ⟨j - 1, by omega⟩
          have hjaz' : (a : Int) < (jp : Int) + 1 := by omega
          cases hL : (ltOf cf) dj[jp + 1]! dj[jp]! with
          | true =>
            have eap : ((jp : Int) + 1).toNat = jp + 1 := by omega
            have pap : (0 : Int) ≤ (jp : Int) + 1 := by omega
            have bap : (jp : Int) + 1 < (d0.size : Int) := by omega
            have rap : IntKind.i64.wrap ((jp : Int) + 1) = (jp : Int) + 1 := by rw [IntKind.wrap_i64]; omega
            have ecp : ((jp : Int)).toNat = jp := by omega
            have pcp : (0 : Int) ≤ (jp : Int) := by omega
            have bcp : (jp : Int) < (d0.size : Int) := by omega
            have rcp : IntKind.i64.wrap ((jp : Int)) = (jp : Int) := by rw [IntKind.wrap_i64]; omega
            obtain ⟨xp, hxp⟩ : ∃ x, x = dj[jp + 1]! := ⟨_, rfl⟩
            obtain ⟨yp, hyp⟩ : ∃ x, x = dj[jp]! := ⟨_, rfl⟩
            have lap0 : ∀ n os, (grow (wr.drewN n) os).cell? ⟨blk, off + (jp + 1) * 2, none⟩ = some (.int .i64 xp.1) := fun n os => by rw [hxp]; exact (cellsR (S1.out.grown n os) R hsj (jp + 1) (by omega)).1.1
            have lap1 : ∀ n os, (grow (wr.drewN n) os).cell? ⟨blk, off + (jp + 1) * 2 + 1, none⟩ = some (.int .i64 xp.2) := fun n os => by rw [hxp]; exact (cellsR (S1.out.grown n os) R hsj (jp + 1) (by omega)).2.1
            have lbp0 : ∀ n os, (grow (wr.drewN n) os).cell? ⟨blk, off + (jp) * 2, none⟩ = some (.int .i64 yp.1) := fun n os => by rw [hyp]; exact (cellsR (S1.out.grown n os) R hsj (jp) (by omega)).1.1
            have lbp1 : ∀ n os, (grow (wr.drewN n) os).cell? ⟨blk, off + (jp) * 2 + 1, none⟩ = some (.int .i64 yp.2) := fun n os => by rw [hyp]; exact (cellsR (S1.out.grown n os) R hsj (jp) (by omega)).2.1
            have hcp := S1.out.cmp HC.out hsj xp yp
            have hvp : cf xp yp < 0 := by rw [hxp, hyp]; exact of_decide_eq_true hL
            have hdp : decide (cf xp yp < 0) = true := decide_eq_true hvp
            clear hxp hyp
            go_wp2_with fail
            go_quiet_grown (first | (go_at_fn g; refine Calls.grown_of (hcp _ _)))
            have S2 : Aside (SWK encR 2 w0 blk off dj (grow (wr.drewN nq) osq)) := S1.out.grown nq osq
            clear lap0 lap1 lbp0 lbp1 hcp S1
            generalize grow (wr.drewN nq) osq = w2 at S2 ⊢
            clear nq osq

            go_wp2_with fail
            have eas : ((jp : Int) + 1).toNat = jp + 1 := by omega
            have pas : (0 : Int) ≤ (jp : Int) + 1 := by omega
            have bas : (jp : Int) + 1 < (d0.size : Int) := by omega
            have ras : IntKind.i64.wrap ((jp : Int) + 1) = (jp : Int) + 1 := by rw [IntKind.wrap_i64]; omega
            have ecs : ((jp : Int)).toNat = jp := by omega
            have pcs : (0 : Int) ≤ (jp : Int) := by omega
            have bcs : (jp : Int) < (d0.size : Int) := by omega
            have rcs : IntKind.i64.wrap ((jp : Int)) = (jp : Int) := by rw [IntKind.wrap_i64]; omega
            obtain ⟨xs, hxs⟩ : ∃ x, x = dj[jp + 1]! := ⟨_, rfl⟩
            obtain ⟨ys, hys⟩ : ∃ x, x = dj[jp]! := ⟨_, rfl⟩
            have S3 : Aside (SWK encR 2 w0 blk off (swp dj (jp + 1) (jp)) ((((w2.setCell ⟨blk, off + (jp + 1) * 2, none⟩ (.int .i64 ys.1)).setCell ⟨blk, off + (jp + 1) * 2 + 1, none⟩ (.int .i64 ys.2)).setCell ⟨blk, off + (jp) * 2, none⟩ (.int .i64 xs.1)).setCell ⟨blk, off + (jp) * 2 + 1, none⟩ (.int .i64 xs.2)).drew) := by rw [hxs, hys]; exact S2.out.swapped R (jp + 1) (jp) (by omega) (by omega)
            have has := cellsR S2.out.drew R hsj (jp + 1) (by omega)
            have hbs := cellsR S2.out.drew R hsj (jp) (by omega)
            have hds := cellsR S2.out R hsj (jp + 1) (by omega)
            have hes := cellsR S2.out R hsj (jp) (by omega)
            rw [← hxs] at has hds
            rw [← hys] at hbs hes
            obtain ⟨⟨las0, fas0⟩, ⟨las1, fas1⟩⟩ := has
            obtain ⟨⟨lbs0, fbs0⟩, ⟨lbs1, fbs1⟩⟩ := hbs
            obtain ⟨⟨lds0, fds0⟩, ⟨lds1, fds1⟩⟩ := hds
            obtain ⟨⟨les0, fes0⟩, ⟨les1, fes1⟩⟩ := hes
            have nes00 : ¬ (off + (jp) * 2 = off + (jp + 1) * 2) := by omega
            have nes01 : ¬ (off + (jp) * 2 = off + (jp + 1) * 2 + 1) := by omega
            have nes10 : ¬ (off + (jp) * 2 + 1 = off + (jp + 1) * 2) := by omega
            have nes11 : ¬ (off + (jp) * 2 + 1 = off + (jp + 1) * 2 + 1) := by omega
            clear S2 hxs hys
            go_wp2_with fail
            go_big_region_o
            clear las0 fas0 las1 fas1 lbs0 fbs0 lbs1 fbs1 lds0 fds0 lds1 fds1 les0 fes0 les1 fes1
            generalize ((((w2.setCell ⟨blk, off + (jp + 1) * 2, none⟩ (.int .i64 ys.1)).setCell ⟨blk, off + (jp + 1) * 2 + 1, none⟩ (.int .i64 ys.2)).setCell ⟨blk, off + (jp) * 2, none⟩ (.int .i64 xs.1)).setCell ⟨blk, off + (jp) * 2 + 1, none⟩ (.int .i64 xs.2)).drew = w3 at S3 ⊢
            go_wp2

            go_roundg jp
            case measure => omega
            case rel =>
              refine ⟨jp, swp dj (jp + 1) jp, by first | rfl | go_num | (congr 1; omega), by omega, by omega, Nat.le_refl _, by rw [size_swp]; exact hsj, S3, (show Hid _ from ?_)⟩
              show _ = _
              have := insInner_go (ltOf cf) a (jp + 1) dj hja (by simp only [Nat.add_sub_cancel]; exact hL)
              simp only [Nat.add_sub_cancel] at this
              rw [← HI.out, this]
          | false =>
            have eaq : ((jp : Int) + 1).toNat = jp + 1 := by omega
            have paq : (0 : Int) ≤ (jp : Int) + 1 := by omega
            have baq : (jp : Int) + 1 < (d0.size : Int) := by omega
            have raq : IntKind.i64.wrap ((jp : Int) + 1) = (jp : Int) + 1 := by rw [IntKind.wrap_i64]; omega
            have ecq : ((jp : Int)).toNat = jp := by omega
            have pcq : (0 : Int) ≤ (jp : Int) := by omega
            have bcq : (jp : Int) < (d0.size : Int) := by omega
            have rcq : IntKind.i64.wrap ((jp : Int)) = (jp : Int) := by rw [IntKind.wrap_i64]; omega
            obtain ⟨xq, hxq⟩ : ∃ x, x = dj[jp + 1]! := ⟨_, rfl⟩
            obtain ⟨yq, hyq⟩ : ∃ x, x = dj[jp]! := ⟨_, rfl⟩
            have laq0 : ∀ n os, (grow (wr.drewN n) os).cell? ⟨blk, off + (jp + 1) * 2, none⟩ = some (.int .i64 xq.1) := fun n os => by rw [hxq]; exact (cellsR (S1.out.grown n os) R hsj (jp + 1) (by omega)).1.1
            have laq1 : ∀ n os, (grow (wr.drewN n) os).cell? ⟨blk, off + (jp + 1) * 2 + 1, none⟩ = some (.int .i64 xq.2) := fun n os => by rw [hxq]; exact (cellsR (S1.out.grown n os) R hsj (jp + 1) (by omega)).2.1
            have lbq0 : ∀ n os, (grow (wr.drewN n) os).cell? ⟨blk, off + (jp) * 2, none⟩ = some (.int .i64 yq.1) := fun n os => by rw [hyq]; exact (cellsR (S1.out.grown n os) R hsj (jp) (by omega)).1.1
            have lbq1 : ∀ n os, (grow (wr.drewN n) os).cell? ⟨blk, off + (jp) * 2 + 1, none⟩ = some (.int .i64 yq.2) := fun n os => by rw [hyq]; exact (cellsR (S1.out.grown n os) R hsj (jp) (by omega)).2.1
            have hcq := S1.out.cmp HC.out hsj xq yq
            have hvq : ¬ cf xq yq < 0 := by rw [hxq, hyq]; exact of_decide_eq_false hL
            have hdq : decide (cf xq yq < 0) = false := decide_eq_false hvq
            clear hxq hyq
            go_wp2_with fail
            go_quiet_grown (first | (go_at_fn g; refine Calls.grown_of (hcq _ _)))
            have S2 : Aside (SWK encR 2 w0 blk off dj (grow (wr.drewN nq) osq)) := S1.out.grown nq osq
            clear laq0 laq1 lbq0 lbq1 hcq S1
            generalize grow (wr.drewN nq) osq = w2 at S2 ⊢
            clear nq osq

            go_wp2
            go_roundg (b - (i + 1))
            case measure => omega
            case rel => exact ⟨i + 1, dj, by go_num, by omega, by omega, by omega, hsj, S2, OUT.out (Or.inr (by simp only [Nat.add_sub_cancel]; exact hL))⟩
        · have hjaz : decide ((j : Int) > (a : Int)) = false := decide_eq_false (by omega)
          have hjaz' : ¬ (a : Int) < (j : Int) := by omega
          have S2 : Aside (SWK encR 2 w0 blk off dj wr.drew) := S1.out.drew
          clear S1
          go_wp2_with fail
          go_big_region_o
          all_goals go_wp2
          go_roundg (b - (i + 1))
          case measure => omega
          case rel => exact ⟨i + 1, dj, by go_num, by omega, by omega, by omega, hsj, S2, OUT.out (Or.inl (by omega))⟩
    · have hltz : ¬ (i : Int) < (b : Int) := by omega
      go_wp2
      go_end0
      refine ⟨rfl, ?_⟩
      unfold Sort.insertionSort
      rw [← HO.out, insOuter_stop _ _ _ _ _ hlt]
      exact S1.out

/-- One block. -/
theorem blockR (cf : (Int × Int) → (Int × Int) → Int) (hO : SWO (ltOf cf)) (g : Nat) (cb : Array Value) (blk off cap : Nat) (d0 : Array (Int × Int)) (w0 : World) (R : RowK encR 2 w0 blk off d0) (hsz : d0.size < 4611686018427387904)
    (eg : ∀ args w, (callFunc g args).run Try.prog w = .ok (.enter g args) w) (hcmp : CmpLays Try.prog g cb encR 2 cf blk off d0.size w0)
    (p l s : List (Int × Int)) (w : World) (hN : d0.size = p.length + l.length + s.length) (az bz : Int) (haz : az = (p.length : Nat)) (hbz : bz = (p.length + l.length : Nat)) (S : SWK encR 2 w0 blk off (p ++ l ++ s).toArray w) :
    Calls Try.prog 186 #[.slice (some ⟨blk, off, none⟩) d0.size cap, .int .i64 az, .int .i64 bz, .func (.func g) #[] cb] w fun e w' =>
      e = .returned (.tuple #[]) ∧ ∃ M, St (ltOf cf) l M ∧ SWK encR 2 w0 blk off (p ++ M ++ s).toArray w' := by
  obtain ⟨Y, h1, h2⟩ := insertion_parts hO p l s (a := p.length) (b := p.length + l.length) rfl rfl
  refine (insertionR cf g cb blk off cap d0 w0 R hsz eg hcmp (p ++ l ++ s).toArray w (by simp; omega) S p.length (p.length + l.length) (by omega) (by omega) az bz haz hbz).mono ?_
  rintro e w' ⟨he, hS⟩
  rw [h2] at hS
  exact ⟨he, Y, h1, hS⟩

set_option maxHeartbeats 40000000 in
set_option maxRecDepth 1000000 in
theorem stableR (cf : (Int × Int) → (Int × Int) → Int) (hO : SWO (ltOf cf)) (g : Nat) (cb : Array Value) (blk off cap : Nat) (d0 : Array (Int × Int)) (w0 : World) (R : RowK encR 2 w0 blk off d0) (hsz : d0.size < 4611686018427387904)
    (eg : ∀ args w, (callFunc g args).run Try.prog w = .ok (.enter g args) w) (hcmp : CmpLays Try.prog g cb encR 2 cf blk off d0.size w0) (hsm : d0.size ≤ 4294967296)
    (l : List (Int × Int)) (w : World) (hN : l.length = d0.size) (S : SWK encR 2 w0 blk off l.toArray w) :
    Calls Try.prog 167 #[.slice (some ⟨blk, off, none⟩) d0.size cap, .int .i64 (l.length : Nat), .func (.func g) #[] cb] w fun e w' =>
      e = .returned (.tuple #[]) ∧ ∃ M, St (ltOf cf) l M ∧ SWK encR 2 w0 blk off M.toArray w' := by
  have HBLK := Lib.hid (fun (w : World) (p l s : List (Int × Int)) hN az bz haz hbz S => blockR cf hO g cb blk off cap d0 w0 R hsz eg hcmp p l s w hN az bz haz hbz S)
  have HSYM := Lib.hid (symMergeR cf hO g cb blk off cap d0 w0 R hsz eg hcmp)
  have S0 : Aside (SWK encR 2 w0 blk off l.toArray w) := S
  have mixed : Try.prog.follows .mixedOrders = true := by kernel_rfl
  obtain ⟨N, hNN⟩ : ∃ N, N = l.length := ⟨_, rfl⟩
  have hN2 : N = d0.size := by omega
  rw [← hNN]
  have HNN := Lib.hid hNN
  have HN2 := Lib.hid hN2
  have bnd : N ≤ 4294967296 := by omega
  clear hcmp S hO hN hNN hN2
  go_enter Try.func167, Try.ntmps167
  go_wp2_with fail
  -- the blocks of twenty
  go_loopg [7, 8] N (fun kx s7 s8 wr => ∃ (t : Nat) (X : List (Int × Int)), s7 = .int .i64 (t * 20 : Nat) ∧ s8 = .int .i64 (t * 20 + 20 : Nat) ∧ t * 20 ≤ N ∧ N - t * 20 ≤ kx ∧ Aside (Upto (ltOf cf) 20 l l X t) ∧ Aside (SWK encR 2 w0 blk off X.toArray wr))
  case atStart => exact ⟨0, l, rfl, rfl, by omega, by omega, Upto.start rfl, S0⟩
  case round =>
    clear S0
    obtain ⟨t, X, rfl, rfl, htN, hkx, U, S1⟩ := hrel
    obtain ⟨a, ha⟩ : ∃ a, a = t * 20 := ⟨_, rfl⟩
    rw [← ha] at htN hkx ⊢
    have HA := Lib.hid ha
    have hXl : X.length = N := by rw [HNN.out]; exact U.out.1
    have HXL := Lib.hid hXl
    have hdrop : X.drop a = l.drop a := by rw [ha]; exact U.out.2.2
    have HDR := Lib.hid hdrop
    clear ha hXl hdrop
    have rab : IntKind.i64.wrap ((a : Int) + 20 + 20) = (a : Int) + 20 + 20 := by rw [IntKind.wrap_i64]; omega
    have ecast : (((a + 20 : Nat)) : Int) = (a : Int) + 20 := by omega
    by_cases hlt : a + 20 ≤ N
    · have hltz : (a : Int) + 20 ≤ (N : Int) := by omega
      have q := HBLK.out wr (X.take a) (seg X a 20) (X.drop (a + 20)) (by have := HXL.out; have := HN2.out; rw [seg_len]; simp; omega) a (a + 20 : Nat) (by have := HXL.out; simp; omega) (by have := HXL.out; rw [seg_len]; simp; omega) (by rw [← parts]; exact S1.out)
      have HQ := Lib.hid q
      clear q S1
      go_wp2_with fail
      refine (HQ.out).mono ?_
      rintro e w1 ⟨rfl, M, hM, S2⟩
      have U2 : Aside (Upto (ltOf cf) 20 l l (put X (t * 20) 20 M) (t + 1)) := U.out.step (by rw [← HA.out, ← HNN.out]; exact htN) (by
        have e : seg l (t * 20) 20 = seg X a 20 := by unfold seg; rw [← HA.out, HDR.out]
        rw [e]; exact hM)
      have S3 : Aside (SWK encR 2 w0 blk off (put X (t * 20) 20 M).toArray w1) := by show SWK encR 2 w0 blk off _ _; unfold put; rw [← HA.out]; exact S2
      clear HQ S2 hM U
      go_wp2
      go_roundg (N - (a + 20))
      case measure => omega
      case rel => exact ⟨t + 1, _, by have := HA.out; congr 1; omega, by have := HA.out; congr 1; omega, by have := HA.out; omega, by have := HA.out; omega, U2, S3⟩
    · have hltz : ¬ (a : Int) + 20 ≤ (N : Int) := by omega
      have q := HBLK.out wr (X.take a) (seg X a 20) (X.drop (a + 20)) (by have := HXL.out; have := HN2.out; rw [seg_len]; simp; omega) a N (by have := HXL.out; simp; omega) (by have := HXL.out; rw [seg_len]; simp; omega) (by rw [← parts]; exact S1.out)
      have HQ := Lib.hid q
      clear q S1
      go_wp2_with fail
      refine (HQ.out).mono ?_
      rintro e w1 ⟨rfl, M, hM, S2⟩
      have hB0 : Blocks (ltOf cf) 20 l (put X (t * 20) 20 M) := (U.out.step (by rw [← HA.out, ← HNN.out]; exact htN) (by
        have e : seg l (t * 20) 20 = seg X a 20 := by unfold seg; rw [← HA.out, HDR.out]
        rw [e]; exact hM)).blocks (by have := HA.out; have := HNN.out; omega)
      have S3 : Aside (SWK encR 2 w0 blk off (put X (t * 20) 20 M).toArray w1) := by show SWK encR 2 w0 blk off _ _; unfold put; rw [← HA.out]; exact S2
      have B0 : Aside (Blocks (ltOf cf) 20 l (put X (t * 20) 20 M)) := hB0
      generalize put X (t * 20) 20 M = W0 at B0 S3
      clear HQ S2 hM U hB0 HDR HXL HA rab ecast
      go_wp2
      -- the passes
      go_loopg [6] N (fun kx s6 wr => ∃ (bs : Nat) (W : List (Int × Int)), s6 = .int .i64 bs ∧ 1 ≤ bs ∧ bs ≤ 2 * N + 20 ∧ N - bs ≤ kx ∧ Aside (Blocks (ltOf cf) bs l W) ∧ Aside (SWK encR 2 w0 blk off W.toArray wr))
      case atStart => exact ⟨20, W0, rfl, by omega, by omega, by omega, B0, S3⟩
      case round =>
        clear B0 S3
        obtain ⟨bs, W, rfl, hb1, hb2, hkx2, B, S1⟩ := hrel
        have hWl : W.length = N := by rw [HNN.out]; exact B.out.1
        have HWL := Lib.hid hWl
        clear hWl
        have rbs : IntKind.i64.wrap (2 * (bs : Int)) = 2 * (bs : Int) := by rw [IntKind.wrap_i64]; omega
        have rbs2 : IntKind.i64.wrap ((bs : Int) * 2) = (bs : Int) * 2 := by rw [IntKind.wrap_i64]; omega
        by_cases hlt2 : bs < N
        · have hlt2z : (bs : Int) < (N : Int) := by omega
          go_wp2
          go_loopg [7, 8] N (fun ky s7 s8 wr => ∃ (t a : Nat) (X : List (Int × Int)), s7 = .int .i64 a ∧ s8 = .int .i64 (a + 2 * bs : Nat) ∧ a ≤ N ∧ N - a ≤ ky ∧ Hid (a = t * (2 * bs)) ∧ Aside (Upto (ltOf cf) (2 * bs) l W X t) ∧ Aside (SWK encR 2 w0 blk off X.toArray wr))
          case atStart => exact ⟨0, 0, W, rfl, by congr 1; omega, by omega, by omega, (show 0 = 0 * (2 * bs) by omega), Upto.start B.out.1, S1⟩
          case round =>
            clear S1
            obtain ⟨t, a, X, rfl, rfl, haN, hky, HA, U, S1⟩ := hrel
            have HXL : Hid (X.length = N) := Lib.hid (by rw [HNN.out]; exact U.out.1)
            have HDR : Hid (X.drop a = W.drop a) := Lib.hid (by rw [HA.out]; exact U.out.2.2)
            have ecast : ((a + 2 * bs : Nat) : Int) = (a : Int) + 2 * (bs : Int) := by omega
            have rab : IntKind.i64.wrap ((a : Int) + (bs : Int)) = (a : Int) + (bs : Int) := by rw [IntKind.wrap_i64]; omega
            have rab2 : IntKind.i64.wrap ((a : Int) + 2 * (bs : Int) + 2 * (bs : Int)) = (a : Int) + 2 * (bs : Int) + 2 * (bs : Int) := by rw [IntKind.wrap_i64]; omega
            rw [ecast]
            have hseg : seg X a bs ++ seg X (a + bs) bs = seg W (t * (2 * bs)) bs ++ seg W (t * (2 * bs) + bs) bs := by
              rw [← HA.out]; unfold seg
              rw [← List.drop_drop, ← List.drop_drop, HDR.out]
            have hparts : X = X.take a ++ seg X a bs ++ seg X (a + bs) bs ++ X.drop (a + 2 * bs) := by
              have := parts X a (2 * bs)
              rw [seg_two] at this
              rw [← List.append_assoc] at this
              exact this
            have hsort : (seg X a bs).Pairwise (fun a b => ltOf cf b a = false) ∧ (seg X (a + bs) bs).Pairwise (fun a b => ltOf cf b a = false) := by
              have e1 : seg X a bs = seg W (2 * t * bs) bs := by
                have e : a = 2 * t * bs := by rw [HA.out, ← Nat.mul_assoc, Nat.mul_comm t 2]
                unfold seg; rw [HDR.out, e]
              have e2 : seg X (a + bs) bs = seg W ((2 * t + 1) * bs) bs := by
                have e : a + bs = (2 * t + 1) * bs := by rw [HA.out, ← Nat.mul_assoc, Nat.mul_comm t 2, Nat.add_mul, Nat.one_mul]
                unfold seg; rw [← List.drop_drop, HDR.out, List.drop_drop, e]
              exact ⟨e1 ▸ (B.out.2 (2 * t)).sorted, e2 ▸ (B.out.2 (2 * t + 1)).sorted⟩
            have step : ∀ M, St (ltOf cf) (seg X a bs ++ seg X (a + bs) bs) M → Upto (ltOf cf) (2 * bs) l W (put X (t * (2 * bs)) (2 * bs) M) (t + 1) := fun M hM =>
              U.out.step (by rw [← HA.out, ← HNN.out]; exact haN) (B.out.pair t (by rw [← hseg]; exact hM))
            have STEP := Lib.hid step
            have HS := Lib.hid hsort
            have HP := Lib.hid hparts
            clear step hsort hparts hseg
            by_cases hfull : a + 2 * bs ≤ N
            · have hfz : (a : Int) + 2 * (bs : Int) ≤ (N : Int) := by omega
              have hsl : (seg X a bs).length = bs ∧ (seg X (a + bs) bs).length = bs := by have := HXL.out; constructor <;> rw [seg_len] <;> omega
              have q := HSYM.out (bs + bs) (X.take a) (seg X a bs) (seg X (a + bs) bs) (X.drop (a + 2 * bs)) wr (by omega) (by omega) (by omega) HS.out.1 HS.out.2 (by have := HXL.out; have := HN2.out; rw [hsl.1, hsl.2]; simp; omega) a ((a : Int) + (bs : Int)) ((a : Int) + 2 * (bs : Int)) (by have := HXL.out; simp; omega) (by have := HXL.out; rw [hsl.1]; simp; omega) (by have := HXL.out; rw [hsl.1, hsl.2]; simp; omega) (by rw [← HP.out]; exact S1.out)
              have HQ := Lib.hid q
              clear q S1 hsl
              go_wp2_with fail
              refine (HQ.out).mono ?_
              rintro e w1 ⟨rfl, M, hM, S2⟩
              have U2 := Lib.hid (STEP.out M hM)
              have S3 : Aside (SWK encR 2 w0 blk off (put X (t * (2 * bs)) (2 * bs) M).toArray w1) := by show SWK encR 2 w0 blk off _ _; unfold put; rw [← HA.out]; exact S2
              clear HQ S2 hM U
              go_wp2
              go_roundg (N - (a + 2 * bs))
              case measure => omega
              case rel => exact ⟨t + 1, a + 2 * bs, _, by first | rfl | go_num | (congr 1; omega), by first | rfl | go_num | (congr 1; omega), hfull, Nat.le_refl _, (show a + 2 * bs = (t + 1) * (2 * bs) by rw [HA.out, Nat.add_mul, Nat.one_mul]), U2.out, S3⟩
            · have hfz : ¬ (a : Int) + 2 * (bs : Int) ≤ (N : Int) := by omega
              have hend : l.length ≤ (t + 1) * (2 * bs) := by rw [Nat.add_mul, Nat.one_mul, ← HA.out, ← HNN.out]; omega
              have HEND := Lib.hid hend
              clear hend
              by_cases hm : a + bs < N
              · have hmz : (a : Int) + (bs : Int) < (N : Int) := by omega
                have hsl : (seg X a bs).length = bs ∧ (seg X (a + bs) bs).length = N - (a + bs) := by have := HXL.out; constructor <;> rw [seg_len] <;> omega
                have q := HSYM.out (bs + bs) (X.take a) (seg X a bs) (seg X (a + bs) bs) (X.drop (a + 2 * bs)) wr (by omega) (by omega) (by omega) HS.out.1 HS.out.2 (by have := HXL.out; have := HN2.out; rw [hsl.1, hsl.2]; simp; omega) a ((a : Int) + (bs : Int)) N (by have := HXL.out; simp; omega) (by have := HXL.out; rw [hsl.1]; simp; omega) (by have := HXL.out; rw [hsl.1, hsl.2]; simp; omega) (by rw [← HP.out]; exact S1.out)
                have HQ := Lib.hid q
                clear q S1 hsl
                go_wp2_with fail
                refine (HQ.out).mono ?_
                rintro e w1 ⟨rfl, M, hM, S2⟩
                have U2 := Lib.hid ((STEP.out M hM).blocks HEND.out)
                have S3 : Aside (SWK encR 2 w0 blk off (put X (t * (2 * bs)) (2 * bs) M).toArray w1) := by show SWK encR 2 w0 blk off _ _; unfold put; rw [← HA.out]; exact S2
                clear HQ S2 hM U
                go_wp2
                go_roundg (N - 2 * bs)
                case measure => omega
                case rel => exact ⟨2 * bs, _, by first | rfl | (congr 1; omega), by omega, by omega, Nat.le_refl _, U2.out, S3⟩
              · have hmz : ¬ (a : Int) + (bs : Int) < (N : Int) := by omega
                have U2 : Hid (Blocks (ltOf cf) (2 * bs) l X) := Lib.hid (by
                  have h0 : seg X (a + bs) bs = [] := seg_out _ _ (by have := HXL.out; omega)
                  have h1 := STEP.out (seg X a bs ++ seg X (a + bs) bs) (by rw [h0, List.append_nil]; exact St.self HS.out.1)
                  rw [← seg_two, ← HA.out, put_self] at h1
                  exact h1.blocks HEND.out)
                clear U
                go_wp2
                go_roundg (N - 2 * bs)
                case measure => omega
                case rel => exact ⟨2 * bs, X, by first | rfl | (congr 1; omega), by omega, by omega, Nat.le_refl _, U2.out, S1⟩
        · have hlt2z : ¬ (bs : Int) < (N : Int) := by omega
          go_wp2
          go_end0
          exact ⟨rfl, W, B.out.whole (by have := HNN.out; omega), S1.out⟩

theorem sortStableR (cf : (Int × Int) → (Int × Int) → Int) (hO : SWO (ltOf cf)) (g : Nat) (cb : Array Value) (blk off cap : Nat) (d0 : Array (Int × Int)) (w0 : World) (R : RowK encR 2 w0 blk off d0) (hsz : d0.size < 4611686018427387904)
    (eg : ∀ args w, (callFunc g args).run Try.prog w = .ok (.enter g args) w) (hcmp : CmpLays Try.prog g cb encR 2 cf blk off d0.size w0) (hsm : d0.size ≤ 4294967296)
    (l : List (Int × Int)) (w : World) (hN : l.length = d0.size) (S : SWK encR 2 w0 blk off l.toArray w) :
    Calls Try.prog 138 #[.slice (some ⟨blk, off, none⟩) d0.size cap, .func (.func g) #[] cb] w fun e w' =>
      e = .returned (.tuple #[]) ∧ ∃ M, St (ltOf cf) l M ∧ SWK encR 2 w0 blk off M.toArray w' := by
  have HQ := Lib.hid (stableR cf hO g cb blk off cap d0 w0 R hsz eg hcmp hsm l w hN S)
  have e : (d0.size : Int) = (l.length : Int) := by omega
  rw [← hN] at HQ ⊢
  clear hcmp S hO e hN
  go_enter Try.func138, Try.ntmps138
  go_wp2_with fail
  refine (HQ.out).mono ?_
  rintro e w1 ⟨rfl, M, hM, S2⟩
  have HM := Lib.hid hM
  have HS := Lib.hid S2
  clear hM S2
  go_wp2_with fail
  go_end0
  exact ⟨rfl, M, HM.out, HS.out⟩

end Go.Proofs.Ytagibgphegoagaa
end

section
/- The draws' among, by its contract: one of the numbers, and nothing but the cursor moved. -/
namespace Go.Proofs.Ytagibgphegoagaa
open Go.RowKit

theorem among_any (B g : Nat) (a : Option Addr) (len cap : Nat) (m : Nat) (gl : Nat) (l : List Int) (c : Nat) (w : World) (h : Cur B g a len cap m w) (hm : m ≤ 1000000) (hl : RowIs w gl 3 (l.map (Value.int .i64))) (hg : gl ≠ g) (hn : 1 ≤ l.length) (hn2 : l.length ≤ 1000000) :
    Calls Try.prog 65 #[.pointer (some ⟨g, 0, none⟩), .slice (some ⟨gl, 0, none⟩) l.length c] w (OfC B g a len cap m (l.map (Value.int .i64)) w) := by
  have H := Lib.hid h
  have HL := Lib.hid hl
  clear h hl
  go_enter Try.func65, Try.ntmps65
  go_wp2_with fail
  refine (pick_any B g a len cap m _ _ H.out hm (by omega)).mono ?_
  rintro e w1 ⟨r, hr0, hr1, rfl, hc, hb⟩
  obtain ⟨k, rfl⟩ : ∃ k : Nat, r = k := ⟨r.toNat, by omega⟩
  have hk : k < l.length := by omega
  have hcell : w1.cell? ⟨gl, k, none⟩ = some (.int .i64 l[k]) := by rw [(HL.out.but hb hg).cell k]; simp [hk]
  have HM : Hid (Value.int .i64 l[k] ∈ l.map (Value.int .i64)) := Lib.hid (List.mem_map.2 ⟨_, List.getElem_mem hk, rfl⟩)
  have H1 := Lib.hid hc
  have HB1 := Lib.hid hb
  clear H hc hb HL hr1 hr0
  go_wp2_with fail
  go_ret
  exact ⟨_, HM.out, rfl, H1.out, HB1.out⟩

theorem among_lit (B g : Nat) (a : Option Addr) (len cap : Nat) (m : Nat) (l : List Int) (n c : Nat) (A : Array Value) (hA : A = (l.map (Value.int .i64)).toArray) (hl : n = l.length) (w : World) (h : Cur B g a len cap m w) (hm : m ≤ 1000000) (hn : 1 ≤ l.length) (hn2 : l.length ≤ 1000000) :
    Calls Try.prog 65 #[.pointer (some ⟨g, 0, none⟩), .slice (some ⟨w.heap.size, 0, none⟩) n c] (w.alloc (.cells A 3)) (OfC B g a len cap m (l.map (Value.int .i64)) w) := by
  subst hA hl
  refine (among_any B g a len cap m w.heap.size l c _ (h.alloc _) hm (heap_alloc_new w _) (by have := h.lt; omega) hn hn2).mono ?_
  rintro e w1 ⟨x, hx, he, hc, hb⟩
  exact ⟨x, hx, he, hc, (But.alloc g w _).trans hb⟩

end Go.Proofs.Ytagibgphegoagaa
end

section
/- The code that a law is drawn from, and a new cursor over it. -/
namespace Go.Proofs.Ytagibgphegoagaa
open Go.RowKit

/-- The code: bytes of the world. -/
def Code0 (w : World) (a : Option Addr) (len : Nat) : Prop := CodeAt w.heap.size a len w

theorem Code0.below {w w' : World} {a : Option Addr} {len : Nat} (h : Code0 w a len) (hb : Below w.heap.size w w') : Code0 w' a len := by
  intro k hk
  obtain ⟨x, z, ha, hx, hz, h'⟩ := h k hk
  have hbk := Go.ChangeShapes.block_add x k
  refine ⟨x, z, ha, Nat.lt_of_lt_of_le hx hb.size, ?_, h'⟩
  rw [World.cell?_of_block (w := w) (hb.block _ (by omega))]
  exact hz

theorem cur_new {w : World} {a : Option Addr} {len : Nat} (h : Code0 w a len) (cap : Nat) (t : TypeId) :
    Cur w.heap.size w.heap.size a len cap 0 (w.alloc (.cells #[.slice a len cap, .int .i64 0, .int .u64 0] t)) := by
  have hrow : RowIs (w.alloc (.cells #[.slice a len cap, .int .i64 0, .int .u64 0] t)) w.heap.size t [.slice a len cap, .int .i64 0, .int .u64 0] := heap_alloc_new w _
  have hb : Below w.heap.size w (w.alloc (.cells #[.slice a len cap, .int .i64 0, .int .u64 0] t)) := (Below.refl _ w).alloc (Nat.le_refl _) _
  refine ⟨0, Nat.le_refl _, Nat.le_refl _, hrow.lt, ?_, hrow.cell 0, hrow.cell 1, ⟨0, hrow.cell 2⟩, fun j => hrow.frozen j⟩
  intro k hk
  obtain ⟨x, z, ha, hx, hz, h'⟩ := h k hk
  have hbk := Go.ChangeShapes.block_add x k
  refine ⟨x, z, ha, hx, ?_, h'⟩
  rw [World.cell?_of_block (w := w) (hb.block _ (by omega))]
  exact hz

/-- What a draw moves: nothing that was. -/
theorem But.fresh {w w' : World} {o : Obj} (h : But w.heap.size (w.alloc o) w') : Below w.heap.size w w' := by
  have hb : Below w.heap.size w (w.alloc o) := (Below.refl _ w).alloc (Nat.le_refl _) _
  exact hb.trans (h.below (Nat.le_refl _) hb.size)

end Go.Proofs.Ytagibgphegoagaa
end

section
/- What the laws of chapter 8 say: the answers as functions. Nothing of the program. -/
namespace Go.Proofs.Ytagibgphegoagaa
open Rx P
set_option linter.unusedVariables false

/-- A key shifted. -/
def sk (k : Int) : Nat := (k + 100000).toNat
theorem sk_eq {k : Int} (h : -100000 ≤ k) : k + 100000 = (sk k : Int) := by unfold sk; omega
theorem sk_le {k : Int} (h : k ≤ 100000) : sk k ≤ 200000 := by unfold sk; omega
theorem OkR.key {l : List (Int × Int)} (h : OkR l) {p : Int × Int} (hp : p ∈ l) : -100000 ≤ p.1 ∧ p.1 ≤ 100000 := (h.2 p hp).1

/-- The stable arrangement. -/
noncomputable def stb (l : List (Int × Int)) : List (Int × Int) := Classical.epsilon fun r => Stab.Of (·.1) l r
theorem stb_of (l : List (Int × Int)) : Stab.Of (·.1) l (stb l) := Classical.epsilon_spec (p := fun r => Stab.Of (·.1) l r) (Stab.Of.exists_ _ l)
theorem stb_eq {l r : List (Int × Int)} (h : Stab.Of (·.1) l r) : r = stb l := h.uniq (stb_of l)
theorem stb_len (l : List (Int × Int)) : (stb l).length = l.length := (stb_of l).length

/-- The digit of a record's key; of a number. -/
def dgR (b p : Nat) (q : Int × Int) : Nat := dg b p (sk q.1)
def dgI (b p : Nat) (x : Int) : Nat := dg b p (sk x)

def OkB (b : Int) : Prop := 2 ≤ b ∧ b ≤ 256
instance (b : Int) : Decidable (OkB b) := by unfold OkB; exact inferInstance

def OkC (l : List (Int × Int)) (a z : Int) : Prop := OkR l ∧ ((-100000 ≤ a ∧ a ≤ 100000) ∧ a ≤ z ∧ z ≤ a + 1000) ∧ ∀ p ∈ l, a ≤ p.1 ∧ p.1 ≤ z
instance (l : List (Int × Int)) (a z : Int) : Decidable (OkC l a z) := by unfold OkC; exact inferInstance
noncomputable def csAll (l : List (Int × Int)) (a z : Int) : List (Int × Int) × Bool := if OkC l a z then (stb l, true) else ([], false)
theorem csAll_yes {l : List (Int × Int)} {a z : Int} (h : OkC l a z) : csAll l a z = (stb l, true) := if_pos h
theorem csAll_no {l : List (Int × Int)} {a z : Int} (h : ¬ OkC l a z) : csAll l a z = ([], false) := if_neg h
theorem csAll_len (l : List (Int × Int)) (a z : Int) : (csAll l a z).1.length ≤ 1048576 := by
  by_cases h : OkC l a z
  · rw [csAll_yes h]; have := h.1.1; simp only [stb_len]; omega
  · rw [csAll_no h]; simp

def dofAll (k b p : Int) : Int × Bool := if (-100000 ≤ k ∧ k ≤ 100000) ∧ OkBP b p then ((dgI b.toNat p.toNat k : Nat), true) else (0, false)
theorem dofAll_yes {k b p : Int} (h : (-100000 ≤ k ∧ k ≤ 100000) ∧ OkBP b p) : dofAll k b p = (((dgI b.toNat p.toNat k : Nat) : Int), true) := if_pos h
theorem dofAll_no {k b p : Int} (h : ¬ ((-100000 ≤ k ∧ k ≤ 100000) ∧ OkBP b p)) : dofAll k b p = (0, false) := if_neg h

def dcAll (l : List (Int × Int)) (b p : Int) : List Int × Bool := if OkR l ∧ OkBP b p then ((List.range b.toNat).map fun d => (cnt (dgR b.toNat p.toNat) l d : Int), true) else ([], false)
theorem dcAll_yes {l : List (Int × Int)} {b p : Int} (h : OkR l ∧ OkBP b p) : dcAll l b p = ((List.range b.toNat).map fun d => (cnt (dgR b.toNat p.toNat) l d : Int), true) := if_pos h
theorem dcAll_no {l : List (Int × Int)} {b p : Int} (h : ¬ (OkR l ∧ OkBP b p)) : dcAll l b p = ([], false) := if_neg h
theorem dcAll_len (l : List (Int × Int)) (b p : Int) : (dcAll l b p).1.length ≤ 1048576 := by
  by_cases h : OkR l ∧ OkBP b p
  · rw [dcAll_yes h]; have := h.2.1.2; simp; omega
  · rw [dcAll_no h]; simp

def rpAll (l : List (Int × Int)) (b p : Int) : List (Int × Int) × Bool := if OkR l ∧ OkBP b p then (bk (dgR b.toNat p.toNat) l b.toNat, true) else ([], false)
theorem rpAll_yes {l : List (Int × Int)} {b p : Int} (h : OkR l ∧ OkBP b p) : rpAll l b p = (bk (dgR b.toNat p.toNat) l b.toNat, true) := if_pos h
theorem rpAll_no {l : List (Int × Int)} {b p : Int} (h : ¬ (OkR l ∧ OkBP b p)) : rpAll l b p = ([], false) := if_neg h
theorem bk_dg_len (l : List (Int × Int)) {b p : Nat} (hb : 0 < b) : (bk (dgR b p) l b).length = l.length := by
  rw [bk_length]; exact bk_len fun x _ => dg_lt hb p _
theorem rpAll_len (l : List (Int × Int)) (b p : Int) : (rpAll l b p).1.length ≤ 1048576 := by
  by_cases h : OkR l ∧ OkBP b p
  · rw [rpAll_yes h]; have := h.1.1; have h2 := h.2.1.1
    simp only
    rw [bk_dg_len l (by omega)]; omega
  · rw [rpAll_no h]; simp

/-- The shifted keys. -/
def sks (l : List (Int × Int)) : List Nat := l.map fun p => sk p.1
noncomputable def pnAll (l : List (Int × Int)) (b : Int) : Int × Bool := if OkR l ∧ OkB b then ((most b.toNat (sks l) : Nat), true) else (0, false)
theorem pnAll_yes {l : List (Int × Int)} {b : Int} (h : OkR l ∧ OkB b) : pnAll l b = (((most b.toNat (sks l) : Nat) : Int), true) := if_pos h
theorem pnAll_no {l : List (Int × Int)} {b : Int} (h : ¬ (OkR l ∧ OkB b)) : pnAll l b = (0, false) := if_neg h
theorem most_18 {l : List (Int × Int)} {b : Nat} (h : OkR l) (hb : 2 ≤ b) : most b (sks l) ≤ 18 := most_le fun n hn => by
  obtain ⟨p, hp, rfl⟩ := List.mem_map.1 hn
  exact (dl_is hb _).most hb (sk_le (h.key hp).2)

noncomputable def rsAll (l : List (Int × Int)) (b : Int) : List (Int × Int) × Int × Bool := if OkR l ∧ OkB b then (stb l, ((most b.toNat (sks l) : Nat) : Int), true) else ([], 0, false)
theorem rsAll_yes {l : List (Int × Int)} {b : Int} (h : OkR l ∧ OkB b) : rsAll l b = (stb l, ((most b.toNat (sks l) : Nat) : Int), true) := if_pos h
theorem rsAll_no {l : List (Int × Int)} {b : Int} (h : ¬ (OkR l ∧ OkB b)) : rsAll l b = ([], 0, false) := if_neg h
theorem rsAll_len (l : List (Int × Int)) (b : Int) : (rsAll l b).1.length ≤ 1048576 := by
  by_cases h : OkR l ∧ OkB b
  · rw [rsAll_yes h]; have := h.1.1; simp only [stb_len]; omega
  · rw [rsAll_no h]; simp
/-- All passes: the stable arrangement by the keys. -/
theorem passes_stb {l : List (Int × Int)} {b : Nat} (h : OkR l) (hb : 2 ≤ b) : passes (fun p : Int × Int => sk p.1) b l (most b (sks l)) = stb l := by
  refine stb_eq ?_
  have h1 := passes_all (key := fun p : Int × Int => sk p.1) hb (l := l) (k := most b (sks l)) fun x hx => lt_most hb (List.mem_map_of_mem (f := fun p : Int × Int => sk p.1) hx)
  obtain ⟨hs, hq⟩ := h1
  have hm : ∀ x ∈ passes (fun p : Int × Int => sk p.1) b l (most b (sks l)), x ∈ l := fun x hx => ((passes_all (key := fun p : Int × Int => sk p.1) hb (l := l) (k := most b (sks l)) fun x hx => lt_most hb (List.mem_map_of_mem (f := fun p : Int × Int => sk p.1) hx)).mem x).1 hx
  refine ⟨?_, fun q => ?_⟩
  · refine List.Pairwise.imp_of_mem ?_ hs
    intro a c ha hc hac
    have h1 := h.key (hm a ha)
    have h2 := h.key (hm c hc)
    simp only [sk] at hac
    omega
  · have e : ∀ m : List (Int × Int), (∀ x ∈ m, x ∈ l) → m.filter (fun a => a.1 == q) = m.filter (fun a => ((sk a.1 : Nat) : Int) == q + 100000) := fun m hml => by
      refine List.filter_congr fun x hx => ?_
      have h1 := sk_eq (h.key (hml x hx)).1
      by_cases hxq : x.1 = q
      · have e1 : ((sk x.1 : Nat) : Int) = q + 100000 := by omega
        rw [e1, hxq]; simp only [BEq.rfl]
      · have e1 : ¬ ((sk x.1 : Nat) : Int) = q + 100000 := by omega
        have e2 : ((((sk x.1 : Nat) : Int)) == q + 100000) = false := by simp only [beq_eq_false_iff_ne, ne_eq]; exact e1
        have e3 : (x.1 == q) = false := by simpa using hxq
        rw [e2, e3]
    rw [e _ hm, e l fun x hx => hx]
    exact hq _

noncomputable def fpAll (l : List Int) (b p : Int) : List Int × Int × Bool := if OkL l ∧ OkBP b p then ((flagR (dgI b.toNat p.toNat) b.toNat l).L, (((flagR (dgI b.toNat p.toNat) b.toNat l).sw : Nat) : Int), true) else ([], 0, false)
theorem fpAll_yes {l : List Int} {b p : Int} (h : OkL l ∧ OkBP b p) : fpAll l b p = ((flagR (dgI b.toNat p.toNat) b.toNat l).L, (((flagR (dgI b.toNat p.toNat) b.toNat l).sw : Nat) : Int), true) := if_pos h
theorem fpAll_no {l : List Int} {b p : Int} (h : ¬ (OkL l ∧ OkBP b p)) : fpAll l b p = ([], 0, false) := if_neg h
theorem dgI_lt {b : Nat} (hb : 0 < b) (p : Nat) (l : List Int) : ∀ x ∈ l, dgI b p x < b := fun x _ => dg_lt hb p _
theorem flag_len (l : List Int) {b : Nat} (p : Nat) (hb : 0 < b) : (flagR (dgI b p) b l).L.length = l.length := (flagR_is (dgI_lt hb p l)).2.perm.length_eq
theorem fpAll_len (l : List Int) (b p : Int) : (fpAll l b p).1.length ≤ 1048576 := by
  by_cases h : OkL l ∧ OkBP b p
  · rw [fpAll_yes h]; have := h.1.1; have h2 := h.2.1.1
    simp only
    rw [flag_len l _ (by omega)]; omega
  · rw [fpAll_no h]; simp

/-- The place of element i in the stable arrangement. -/
def rk (l : List (Int × Int)) (i : Nat) : Nat := ((List.range l.length).filter fun k => decide ((l.getD k (0, 0)).1 < (l.getD i (0, 0)).1) || (decide ((l.getD k (0, 0)).1 = (l.getD i (0, 0)).1) && decide (k < i))).length
def spF (l : List (Int × Int)) : List Int := (List.range l.length).map fun i => (rk l i : Int)
def spAll (l : List (Int × Int)) : List Int × Bool := if OkR l then (spF l, true) else ([], false)
theorem spAll_yes {l : List (Int × Int)} (h : OkR l) : spAll l = (spF l, true) := if_pos h
theorem spAll_no {l : List (Int × Int)} (h : ¬ OkR l) : spAll l = ([], false) := if_neg h
theorem spF_len (l : List (Int × Int)) : (spF l).length = l.length := by simp [spF]
theorem spAll_len (l : List (Int × Int)) : (spAll l).1.length ≤ 1048576 := by
  by_cases h : OkR l
  · rw [spAll_yes h]; have := h.1; simp only [spF_len]; omega
  · rw [spAll_no h]; simp

end Go.Proofs.Ytagibgphegoagaa
end

section
/- The program's IsValidRecords, by its contract. -/
namespace Go.Proofs.Ytagibgphegoagaa
open Go.RowKit

def outR (p : Int × Int) : Bool := !(decide ((-100000 ≤ p.1 ∧ p.1 ≤ 100000) ∧ (0 ≤ p.2 ∧ p.2 ≤ 999)))

set_option maxRecDepth 100000 in
theorem isInvalidRec_any (p : Int × Int) (W : World) :
    Calls Try.prog 128 #[.agg #[.int .i64 p.1, .int .i64 p.2]] W fun e w' => e = .returned (.bool (outR p)) ∧ Below W.heap.size W w' := by
  have HO := Lib.hid (fun W => isOutside_any p.1 W)
  obtain ⟨k, t⟩ := p
  have hb : Below W.heap.size W (W.alloc (.cells #[.int .i64 k, .int .i64 t] 39)) := (Below.refl _ W).alloc (Nat.le_refl _) _
  have HB := Lib.hid hb
  clear hb
  cases hk : outK k with
  | true =>
    have hd : Hid (outR (k, t) = true) := Lib.hid (by unfold outR; unfold outK at hk; simp at hk ⊢; omega)
    go_enter Try.func128, Try.ntmps128
    go_wp2_with fail
    refine (HO.out _).mono ?_
    rintro e w1 ⟨rfl, rfl⟩
    dsimp only
    rw [hk]
    go_wp2_with fail
    go_ret
    exact ⟨by rw [hd.out]; rfl, HB.out⟩
  | false =>
    by_cases h1 : t < 0
    · have hd : Hid (outR (k, t) = true) := Lib.hid (by unfold outR; unfold outK at hk; simp at hk ⊢; omega)
      go_enter Try.func128, Try.ntmps128
      go_wp2_with fail
      refine (HO.out _).mono ?_
      rintro e w1 ⟨rfl, rfl⟩
      dsimp only
      rw [hk]
      go_wp2_with fail
      go_ret
      exact ⟨by rw [hd.out]; rfl, HB.out⟩
    · by_cases h2 : 999 < t
      · have hd : Hid (outR (k, t) = true) := Lib.hid (by unfold outR; unfold outK at hk; simp at hk ⊢; omega)
        go_enter Try.func128, Try.ntmps128
        go_wp2_with fail
        refine (HO.out _).mono ?_
        rintro e w1 ⟨rfl, rfl⟩
        dsimp only
        rw [hk]
        go_wp2_with fail
        go_ret
        exact ⟨by rw [hd.out]; rfl, HB.out⟩
      · have hd : Hid (outR (k, t) = false) := Lib.hid (by unfold outR; unfold outK at hk; simp at hk ⊢; omega)
        go_enter Try.func128, Try.ntmps128
        go_wp2_with fail
        refine (HO.out _).mono ?_
        rintro e w1 ⟨rfl, rfl⟩
        dsimp only
        rw [hk]
        go_wp2_with fail
        go_ret
        refine ⟨?_, HB.out⟩
        show Ending.returned (Value.bool (decide (t < 0) || decide (999 < t))) = _
        rw [hd.out, decide_eq_false (show ¬ t < 0 by omega), decide_eq_false (show ¬ 999 < t by omega)]; rfl


theorem okR_any (l : List (Int × Int)) : decide (OkR l) = (decide ((l.length : Int) ≤ 64) && !l.any outR) := by
  by_cases h : OkR l
  · have h2 : l.any outR = false := List.any_eq_false.2 fun x hx => by unfold outR; rw [decide_eq_true (h.2 x hx)]; simp
    rw [decide_eq_true h, h2, decide_eq_true (show (l.length : Int) ≤ 64 by have := h.1; omega)]; rfl
  · rw [decide_eq_false h]
    by_cases h1 : (l.length : Int) ≤ 64
    · have h2 : l.any outR = true := by
        apply Classical.byContradiction
        intro hc
        refine h ⟨by omega, fun x hx => ?_⟩
        have := List.any_eq_false.1 (by simpa using hc) x hx
        unfold outR at this
        simpa using this
      rw [h2]; simp
    · rw [decide_eq_false h1]; rfl

set_option maxRecDepth 100000 in
theorem implValidRecs_any (v : Value) (l : List (Int × Int)) (w : World) (hv : FlatAt w v l.length (recs l)) (hn : l.length ≤ 1048576) :
    Calls Try.prog 75 #[v] w fun e w' => e = .returned (.bool (decide (OkR l))) ∧ Below w.heap.size w w' := by
  have eg : ∀ args w, (callFunc 128 args).run Try.prog w = .ok (.enter 128 args) w := enters_of Try.func128 (by kernel_rfl) rfl
  have HC := Lib.hid (containsFR outR 128 #[] eg v l w hv (by omega) (fun W x _ _ => isInvalidRec_any x W))
  have HE := Lib.hid (okR_any l)
  obtain ⟨a, c, rfl, _, _⟩ := hv
  clear eg
  by_cases h : l.length ≤ 64
  · have hz : (l.length : Int) ≤ 64 := by omega
    have HZ : Hid (decide (OkR l) = !l.any outR) := Lib.hid (by rw [HE.out, decide_eq_true hz]; rfl)
    go_enter Try.func75, Try.ntmps75
    go_wp2_with fail
    refine (HC.out).mono ?_
    rintro e w1 ⟨rfl, hb⟩
    have HB := Lib.hid hb
    clear hb
    go_wp2_with fail
    go_ret
    exact ⟨by rw [HZ.out]; rfl, HB.out⟩
  · have hz : ¬ (l.length : Int) ≤ 64 := by omega
    have HZ : Hid (decide (OkR l) = false) := Lib.hid (by rw [HE.out, decide_eq_false hz]; rfl)
    go_enter Try.func75, Try.ntmps75
    go_wp2_with fail
    go_ret
    exact ⟨by rw [HZ.out]; rfl, Below.refl _ _⟩

end Go.Proofs.Ytagibgphegoagaa
end

section
/- Answers whose list may be nil where it has no length: a list and a bool, or a list, a number and a bool. -/
namespace Go.Proofs.Ytagibgphegoagaa
open Go.RowKit
set_option linter.unusedVariables false

/-- No length, wherever it lies. -/
def RetZb (b : Bool) (w : World) (e : Ending) (w' : World) : Prop :=
  ∃ a c, e = .returned (.tuple #[.slice a 0 c, .bool b]) ∧ Below w.heap.size w w'
def RetZnb (n : Int) (b : Bool) (w : World) (e : Ending) (w' : World) : Prop :=
  ∃ a c, e = .returned (.tuple #[.slice a 0 c, .int .i64 n, .bool b]) ∧ Below w.heap.size w w'
def RetCE (r : List (Int × Int) × Bool) (w : World) (e : Ending) (w' : World) : Prop := RetC r w e w' ∨ (r.1 = [] ∧ RetZb r.2 w e w')
def Ret1CE (r : List (Int × Int) × Int × Bool) (w : World) (e : Ending) (w' : World) : Prop := Ret1C r w e w' ∨ (r.1 = [] ∧ RetZnb r.2.1 r.2.2 w e w')
def RetIE (r : List Int × Bool) (w : World) (e : Ending) (w' : World) : Prop := RetI r w e w' ∨ (r.1 = [] ∧ RetZb r.2 w e w')
theorem RetCE.own {r : List (Int × Int) × Bool} {w w' : World} {e : Ending} (h : RetCE r w e w') (h0 : r.1 ≠ []) : RetC r w e w' := by
  rcases h with h | ⟨h, _⟩
  · exact h
  · exact absurd h h0
theorem RetCE.zero {r : List (Int × Int) × Bool} {w w' : World} {e : Ending} (h : RetCE r w e w') (h0 : r.1 = []) : RetZb r.2 w e w' := by
  rcases h with ⟨g, c, rfl, _, _, _, hb⟩ | ⟨_, h⟩
  · exact ⟨some ⟨g, 0, none⟩, c, by rw [h0]; rfl, hb⟩
  · exact h
theorem Ret1CE.own {r : List (Int × Int) × Int × Bool} {w w' : World} {e : Ending} (h : Ret1CE r w e w') (h0 : r.1 ≠ []) : Ret1C r w e w' := by
  rcases h with h | ⟨h, _⟩
  · exact h
  · exact absurd h h0
theorem Ret1CE.zero {r : List (Int × Int) × Int × Bool} {w w' : World} {e : Ending} (h : Ret1CE r w e w') (h0 : r.1 = []) : RetZnb r.2.1 r.2.2 w e w' := by
  rcases h with ⟨g, c, rfl, _, _, _, hb⟩ | ⟨_, h⟩
  · exact ⟨some ⟨g, 0, none⟩, c, by rw [h0]; rfl, hb⟩
  · exact h
theorem RetIE.own {r : List Int × Bool} {w w' : World} {e : Ending} (h : RetIE r w e w') (h0 : r.1 ≠ []) : RetI r w e w' := by
  rcases h with h | ⟨h, _⟩
  · exact h
  · exact absurd h h0
theorem RetIE.zero {r : List Int × Bool} {w w' : World} {e : Ending} (h : RetIE r w e w') (h0 : r.1 = []) : RetZb r.2 w e w' := by
  rcases h with ⟨g, c, rfl, _, _, _, hb⟩ | ⟨_, h⟩
  · exact ⟨some ⟨g, 0, none⟩, c, by rw [h0]; rfl, hb⟩
  · exact h

/-- The list read alone. -/
def RetFC (r : List (Int × Int) × Bool) (w : World) (e : Ending) (w' : World) : Prop :=
  ∃ a c, e = .returned (.tuple #[.slice a r.1.length c, .bool r.2]) ∧ FlatAt w' (.slice a r.1.length c) r.1.length (recs r.1) ∧ Below w.heap.size w w'
def RetFC1 (r : List (Int × Int) × Int × Bool) (w : World) (e : Ending) (w' : World) : Prop :=
  ∃ a c, e = .returned (.tuple #[.slice a r.1.length c, .int .i64 r.2.1, .bool r.2.2]) ∧ FlatAt w' (.slice a r.1.length c) r.1.length (recs r.1) ∧ Below w.heap.size w w'
def RetFI (r : List Int × Bool) (w : World) (e : Ending) (w' : World) : Prop :=
  ∃ a c, e = .returned (.tuple #[.slice a r.1.length c, .bool r.2]) ∧ FlatAt w' (.slice a r.1.length c) r.1.length (ints r.1) ∧ Below w.heap.size w w'
theorem RetCE.flat {r : List (Int × Int) × Bool} {w w' : World} {e : Ending} (h : RetCE r w e w') : RetFC r w e w' := by
  rcases h with ⟨g, c, rfl, h1, _, h3, hb⟩ | ⟨h0, a, c, rfl, hb⟩
  · exact ⟨_, c, rfl, h3.flat h1, hb⟩
  · refine ⟨a, c, by rw [h0]; rfl, ?_, hb⟩
    rw [h0]; exact ⟨a, c, rfl, Nat.zero_le _, fun j u h => by simp [recs] at h⟩
theorem Ret1CE.flat {r : List (Int × Int) × Int × Bool} {w w' : World} {e : Ending} (h : Ret1CE r w e w') : RetFC1 r w e w' := by
  rcases h with ⟨g, c, rfl, h1, _, h3, hb⟩ | ⟨h0, a, c, rfl, hb⟩
  · exact ⟨_, c, rfl, h3.flat h1, hb⟩
  · refine ⟨a, c, by rw [h0]; rfl, ?_, hb⟩
    rw [h0]; exact ⟨a, c, rfl, Nat.zero_le _, fun j u h => by simp [recs] at h⟩
theorem RetIE.flat {r : List Int × Bool} {w w' : World} {e : Ending} (h : RetIE r w e w') : RetFI r w e w' := by
  rcases h with ⟨g, c, rfl, h1, _, h3, hb⟩ | ⟨h0, a, c, rfl, hb⟩
  · exact ⟨_, c, rfl, h3.flat h1, hb⟩
  · refine ⟨a, c, by rw [h0]; rfl, ?_, hb⟩
    rw [h0]; exact ⟨a, c, rfl, Nat.zero_le _, fun j u h => by simp [ints] at h⟩

end Go.Proofs.Ytagibgphegoagaa
end

section
/- The program's distribution of records by buckets, by its contract. -/
namespace Go.Proofs.Ytagibgphegoagaa
open Go.RowKit Rx
set_option linter.unusedVariables false
attribute [local go_sem ↓ high] alloc_tab load_tab store_tab box_tab
attribute [local go_sem] run_tabNew

theorem rec_new (w : World) (x y : Int) : CellRow (w.alloc (.cells #[.int .i64 x, .int .i64 y] 39)) w.heap.size [.int .i64 x, .int .i64 y] := CellRow.of_row (heap_alloc_new w _)

set_option maxRecDepth 100000 in
set_option maxHeartbeats 4000000 in
theorem keysOf_any (v : Value) (l : List (Int × Int)) (w : World) (hv : FlatAt w v l.length (recs l)) (hn : l.length ≤ 1048576) :
    Calls Try.prog 85 #[v] w fun e w' => ∃ g, e = .returned (.slice (some ⟨g, 0, none⟩) l.length l.length) ∧ w.heap.size ≤ g ∧ CellRow w' g (ints (l.map (·.1))) ∧ Below w.heap.size w w' := by
  obtain ⟨a, c, rfl, _, h⟩ := hv
  have H := Lib.hid h
  clear h
  have hmk := makeInts l.length hn
  have hlm : (l.map (·.1)).length = l.length := by simp
  have hrow := heap_alloc_new w (.cells (ints (fill (l.map (·.1)) 0 0)).toArray 3)
  rw [fill_zero, hlm] at hrow
  have HROW : Hid (CellRow (w.alloc (.cells (ints (List.replicate l.length 0)).toArray 3)) w.heap.size (ints (fill (l.map (·.1)) 0 0))) := Lib.hid (by rw [fill_zero, hlm]; exact CellRow.of_row hrow)
  have HB0 : Hid (Below w.heap.size w (w.alloc (.cells (ints (List.replicate l.length 0)).toArray 3))) := Lib.hid ((Below.refl _ _).alloc (Nat.le_refl _) _)
  have HLM := Lib.hid hlm
  clear hrow hlm
  go_enter Try.func85, Try.ntmps85
  go_wp2_with fail
  go_loopw [4, 11] (fun _ i wr => ∃ k : Nat, k ≤ l.length ∧ i = .int .i64 k ∧ CellRow wr w.heap.size (ints (fill (l.map (·.1)) 0 k)) ∧ Below w.heap.size w wr) (fun _ i _ => l.length - (intOf i).toNat)
  case atStart => exact ⟨0, Nat.zero_le _, rfl, HROW.out, HB0.out⟩
  case round =>
    obtain ⟨k, hk, rfl, hr, hb⟩ := hrel
    have HR := Lib.hid hr
    have HB := Lib.hid hb
    clear hr hb hmk HROW HB0
    by_cases hlt : k < l.length
    · have hltz : (k : Int) < (l.length : Int) := by omega
      obtain ⟨p, hp⟩ : ∃ p, l[k]? = some p := ⟨_, List.getElem?_eq_getElem hlt⟩
      obtain ⟨b, o, rfl, hbb, hc1, hc2⟩ := recs_el H.out hp
      have hw1 : wr.cell? ⟨b, o + k * 2, none⟩ = some (.int .i64 p.1) := (HB.out.cell (p := ⟨b, o + k * 2, none⟩) hbb).trans hc1
      have hw2 : wr.cell? ⟨b, o + k * 2 + 1, none⟩ = some (.int .i64 p.2) := (HB.out.cell (p := ⟨b, o + k * 2 + 1, none⟩) hbb).trans hc2
      have HP := Lib.hid (show (l.map (·.1))[k]? = some p.1 by rw [List.getElem?_map, hp]; rfl)
      clear hc1 hc2 hp
      obtain ⟨x, y⟩ := p
      simp only at hw1 hw2 HP
      obtain ⟨hg1, hf1⟩ := HR.out.2 k _ (ints_at (fill_at (d := (0 : Int)) (show k < (l.map (·.1)).length by rw [HLM.out]; exact hlt)))
      have hgl := HR.out.1
      have HNEW : Hid (CellRow ((wr.setCell ⟨w.heap.size, k, none⟩ (.int .i64 x)).alloc (.cells #[.int .i64 x, .int .i64 y] 39)) w.heap.size (ints (fill (l.map (·.1)) 0 (k + 1))) ∧ Below w.heap.size w ((wr.setCell ⟨w.heap.size, k, none⟩ (.int .i64 x)).alloc (.cells #[.int .i64 x, .int .i64 y] 39))) := Lib.hid (by
        have hb := HB.out.setCell (p := ⟨w.heap.size, k, none⟩) (Nat.le_refl _) (.int .i64 x)
        refine ⟨?_, hb.alloc hb.size _⟩
        have := HR.out.set k (.int .i64 x) (by rw [ints_length, fill_length _ _ _ (by rw [HLM.out]; omega), HLM.out]; exact hlt)
        rw [ints_set, fill_set HP.out] at this
        exact this.same (heap_alloc_old _ _ this.1) (by simp))
      clear HP HR HB HLM
      go_wp2_with fail
      go_roundw
      case rel => exact ⟨k + 1, by omega, by go_num, HNEW.out.1, HNEW.out.2⟩
      case measure => simp [intOf]; omega
    · have hltz : ¬ (k : Int) < (l.length : Int) := by omega
      obtain rfl : k = l.length := by omega
      have HRES : Hid (CellRow wr w.heap.size (ints (l.map (·.1)))) := Lib.hid (by
        have := HR.out
        rw [← HLM.out, fill_all] at this; exact this)
      go_wp2_with fail
      go_ret
      exact ⟨_, rfl, Nat.le_refl _, HRES.out, HB.out⟩

/-- What stands ahead of the rounds of the distribution. -/
def DistI (f : Int → Nat) (l : List (Int × Int)) (w : World) (gn gs : Nat) (k : Nat) (wr : World) : Prop :=
  ∃ S, TabAt wr gn (nx (fun p : Int × Int => f p.1) l k) ∧ CellRow wr gs (recs S) ∧ Fill (fun p : Int × Int => f p.1) l 1001 k S ∧ Below w.heap.size w wr

theorem cnt_map (f : Int → Nat) (l : List (Int × Int)) (d : Nat) : cnt f (l.map (·.1)) d = cnt (fun p : Int × Int => f p.1) l d := by
  unfold cnt inB
  rw [List.filter_map, List.length_map]; rfl
theorem st_map (f : Int → Nat) (l : List (Int × Int)) : ∀ d, st f (l.map (·.1)) d = st (fun p : Int × Int => f p.1) l d
  | 0 => rfl
  | d + 1 => by simp only [st, st_map f l d, cnt_map f l d]

set_option maxRecDepth 100000 in
set_option maxHeartbeats 8000000 in
theorem distributed_any (f : Int → Nat) (g : Nat) (lb : Array Value) (eg : ∀ args w, (callFunc g args).run Try.prog w = .ok (.enter g args) w) (v : Value) (l : List (Int × Int)) (w : World) (hv : FlatAt w v l.length (recs l)) (hn : l.length ≤ 1048576)
    (hf : ∀ p ∈ l, f p.1 < 1001) (hp : ∀ (W : World) x, x ∈ l.map (·.1) → Below w.heap.size w W → Calls Try.prog g (#[.int .i64 x] ++ lb) W fun e w' => e = .returned (.int .i64 (f x : Nat)) ∧ Below W.heap.size W w') :
    Calls Try.prog 79 #[v, .func (.func g) #[] lb] w (RowOfC (bk (fun p : Int × Int => f p.1) l 1001) w) := by
  have hfm : ∀ x ∈ l.map (·.1), f x < 1001 := fun x hx => by
    obtain ⟨p, hp, rfl⟩ := List.mem_map.1 hx; exact hf p hp
  obtain ⟨M, hM⟩ : ∃ M, M = bk (fun p : Int × Int => f p.1) l 1001 := ⟨_, rfl⟩
  have HDONE : Hid (∀ S, Fill (fun p : Int × Int => f p.1) l 1001 l.length S → S = M) := Lib.hid (fun S h => (h.done hf).trans hM.symm)
  rw [← hM]
  clear hM
  have HKEYS := Lib.hid (keysOf_any v l w hv hn)
  have HBC := Lib.hid (fun (gk : Nat) W (hk : CellRow W gk (ints (l.map (·.1)))) (hW : Below w.heap.size w W) => bucketCounts_any f g lb eg (.slice (some ⟨gk, 0, none⟩) l.length l.length) (l.map (·.1)) W (by rw [List.length_map]; exact hk.flat (Nat.le_refl _)) (by simpa using hn) hfm (fun W2 x hx h2 => hp W2 x hx (hW.trans (h2.mono hW.size))))
  have HST := Lib.hid (fun W => starts_any f (l.map (·.1)) W hfm (by simpa using hn))
  have HPR := Lib.hid hp
  have HF := Lib.hid hf
  have hmk := makeRec l.length hn
  obtain ⟨a, c, rfl, _, h⟩ := hv
  have H := Lib.hid h
  clear h hp hf hfm
  go_enter Try.func79, Try.ntmps79
  go_wp2_with fail
  refine HKEYS.out.mono ?_
  rintro e w1 ⟨gk, rfl, hgk, hrk, hb1⟩
  have HB1 := Lib.hid hb1
  have HC := Lib.hid (HBC.out gk w1 hrk hb1)
  clear hrk hb1 HKEYS HBC hgk
  go_wp2_with fail
  refine HC.out.mono ?_
  rintro e w2 ⟨rfl, hb2⟩
  have HB2 := Lib.hid (HB1.out.trans (hb2.mono HB1.out.size))
  clear hb2 HC HB1
  go_wp2_with fail
  refine (HST.out _).mono ?_
  rintro e w3 ⟨rfl, hb3⟩
  have HB3 := Lib.hid (HB2.out.trans (hb3.mono HB2.out.size))
  clear hb3 HST HB2
  obtain ⟨hr1, hr2⟩ := (TabAt.new w3 (fun _ => 0)).row (st f (l.map (·.1)))
  have hst := run_tabStore (st f (l.map (·.1))) (TabAt.new w3 (fun _ => 0))
  obtain ⟨W4, hW4⟩ : ∃ W4, W4 = (w3.alloc (.cells (tabA fun _ => 0) 139)).setRow w3.heap.size (tabA (st f (l.map (·.1)))) := ⟨_, rfl⟩
  rw [← hW4] at hr1 hr2 hst
  have hb34 : Below w3.heap.size w3 W4 := ((Below.refl _ _).alloc (Nat.le_refl _) _).trans (hr2.below (Nat.le_refl _) (by simp))
  have hsz4 : W4.heap.size = w3.heap.size + 1 := by rw [hW4]; unfold World.setRow; simp
  have HB4 := Lib.hid (HB3.out.trans (hb34.mono HB3.out.size))
  have hrow := heap_alloc_new W4 (.cells (recs (List.replicate l.length (0, 0))).toArray 39)
  have HI0 : Hid (DistI f l w w3.heap.size W4.heap.size 0 (W4.alloc (.cells (recs (List.replicate l.length (0, 0))).toArray 39))) := Lib.hid ⟨List.replicate l.length (0, 0), by
      have h1 : TabAt W4 w3.heap.size (nx (fun p : Int × Int => f p.1) l 0) := hr1.congr (fun d _ => by rw [st_map]; unfold nx; simp [cnt, inB])
      exact h1.below ((Below.refl W4.heap.size _).alloc (Nat.le_refl _) _) h1.lt, CellRow.of_row hrow, Fill.start _ _ _ (by simp), HB4.out.alloc HB4.out.size _⟩
  have hgn : w.heap.size ≤ w3.heap.size := HB3.out.size
  have HSZ := Lib.hid hsz4
  clear hr1 hr2 hW4 hb34 hrow HB3 HB4 hsz4
  go_wp2_with fail
  obtain ⟨gn, hgne⟩ : ∃ gn, gn = w3.heap.size := ⟨_, rfl⟩
  obtain ⟨gs, hgse⟩ : ∃ gs, gs = W4.heap.size := ⟨_, rfl⟩
  rw [← hgne, ← hgse] at HI0
  rw [← hgne] at hgn HSZ ⊢
  rw [← hgse] at HSZ ⊢
  have hgsn : gn < gs := by have := HSZ.out; omega
  have hng : ¬ gn = gs := by omega
  have hng2 : ¬ gs = gn := by omega
  clear HSZ hst hmk hgne hgse
  go_loopw [8, 9, 20] (fun _ _ i wr => ∃ k : Nat, k ≤ l.length ∧ i = .int .i64 k ∧ DistI f l w gn gs k wr) (fun _ _ i _ => l.length - (intOf i).toNat)
  case atStart => exact ⟨0, Nat.zero_le _, rfl, HI0.out⟩
  case round =>
    obtain ⟨k, hk, rfl, hd⟩ := hrel
    have HD := Lib.hid hd
    clear hd HI0
    by_cases hlt : k < l.length
    · have hltz : (k : Int) < (l.length : Int) := by omega
      obtain ⟨p, hp⟩ : ∃ p, l[k]? = some p := ⟨_, List.getElem?_eq_getElem hlt⟩
      obtain ⟨S, hT, hS, hFl, hB⟩ := HD.out
      obtain ⟨b, o, rfl, hbb, hc1, hc2⟩ := recs_el H.out hp
      have hw1 : wr.cell? ⟨b, o + k * 2, none⟩ = some (.int .i64 p.1) := (hB.cell (p := ⟨b, o + k * 2, none⟩) hbb).trans hc1
      have hw2 : wr.cell? ⟨b, o + k * 2 + 1, none⟩ = some (.int .i64 p.2) := (hB.cell (p := ⟨b, o + k * 2 + 1, none⟩) hbb).trans hc2
      have hpm := List.mem_of_getElem? hp
      have hfp := HF.out p hpm
      have hnl := nx_lt (f := fun p : Int × Int => f p.1) HF.out hp
      have HSTEP := Lib.hid (hFl.step HF.out hp)
      have HNX := Lib.hid (fun d => cnt_take_succ (f := fun p : Int × Int => f p.1) hp d)
      have hsl := hFl.1
      obtain ⟨x, y⟩ := p
      simp only at hw1 hw2 hfp hnl HSTEP HNX
      have hbA : Below wr.heap.size wr (wr.alloc (.cells #[.int .i64 x, .int .i64 y] 39)) := (Below.refl _ _).alloc (Nat.le_refl _) _
      have hbA2 : Below w.heap.size w (wr.alloc (.cells #[.int .i64 x, .int .i64 y] 39)) := hB.trans (hbA.mono hB.size)
      have HCALL := Lib.hid (HPR.out (wr.alloc (.cells #[.int .i64 x, .int .i64 y] 39)) x (List.mem_map_of_mem (f := (·.1)) hpm) hbA2)
      obtain ⟨d, hd⟩ : ∃ d, d = f x := ⟨_, rfl⟩
      obtain ⟨n, hn'⟩ : ∃ n, n = nx (fun p : Int × Int => f p.1) l k d := ⟨_, rfl⟩
      rw [← hd] at HCALL hfp hnl HSTEP HNX
      rw [← hn'] at hnl HSTEP
      have HN := Lib.hid hn'
      have hn64 : n ≤ 1048576 := by omega
      have HT := Lib.hid hT
      have HS := Lib.hid hS
      have HB := Lib.hid hB
      have HBA := Lib.hid hbA
      have hgl := hS.1
      have htl := hT.lt
      have hszA : (wr.alloc (.cells #[.int .i64 x, .int .i64 y] 39)).heap.size = wr.heap.size + 1 := by simp
      have HRC := Lib.hid (rec_new wr x y)
      have hdz : (d : Int) < 1001 := by omega
      have hnz : (n : Int) < (l.length : Int) := by omega
      clear hc1 hc2 hp hpm hd hn' hT hS hFl hB hbA hbA2 HF HPR HD
      go_wp2_with (
        go_at_fn g
        refine (HCALL.out).mono ?_
        rintro e w' ⟨rfl, hb'⟩
        rw [hszA] at hb'
        have HBW := Lib.hid (HBA.out.trans (hb'.mono (by omega)))
        obtain ⟨ct, ft⟩ := (HT.out.below HBW.out htl).at hfp
        rw [← HN.out] at ct
        obtain ⟨cr1, _⟩ := (HRC.out.below hb' (by omega)).2 0 _ rfl
        obtain ⟨cr2, _⟩ := (HRC.out.below hb' (by omega)).2 1 _ rfl
        obtain ⟨q, hq⟩ : ∃ q, S[n]? = some q := ⟨_, List.getElem?_eq_getElem (by omega)⟩
        obtain ⟨cs1, fs1⟩ := (HS.out.below HBW.out hgl).2 _ _ (recs_at hq).1
        obtain ⟨cs2, fs2⟩ := (HS.out.below HBW.out hgl).2 _ _ (recs_at hq).2
        clear hq hb')
      have HRES : Hid (DistI f l w gn gs (k + 1) (((w'.setCell ⟨gs, n * 2, none⟩ (.int .i64 x)).setCell ⟨gs, n * 2 + 1, none⟩ (.int .i64 y)).setCell ⟨gn, d, none⟩ (.int .i64 ((n : Int) + 1))).drew) := Lib.hid (by
        have hb1 : But gs w' ((w'.setCell ⟨gs, n * 2, none⟩ (.int .i64 x)).setCell ⟨gs, n * 2 + 1, none⟩ (.int .i64 y)) := ((But.refl gs w').setCell (n * 2) _).setCell (n * 2 + 1) _
        have hb2 : But gn ((w'.setCell ⟨gs, n * 2, none⟩ (.int .i64 x)).setCell ⟨gs, n * 2 + 1, none⟩ (.int .i64 y)) (((w'.setCell ⟨gs, n * 2, none⟩ (.int .i64 x)).setCell ⟨gs, n * 2 + 1, none⟩ (.int .i64 y)).setCell ⟨gn, d, none⟩ (.int .i64 ((n : Int) + 1))).drew := ((But.refl gn _).setCell d (.int .i64 ((n : Int) + 1))).drewN 1
        have hB := HB.out.trans (HBW.out.mono HB.out.size)
        have hB2 := hB.trans (hb1.below (by omega) hB.size)
        refine ⟨S.set n (x, y), ?_, ?_, HSTEP.out, hB2.trans (hb2.below hgn hB2.size)⟩
        · have h1 := (((HT.out.below HBW.out htl).but hb1 hng).put d (n + 1)).congr (h := nx (fun p : Int × Int => f p.1) l (k + 1)) (fun q _ => by
            have h2 := HNX.out q
            by_cases hq : q = d
            · subst hq
              rw [if_pos rfl] at h2 ⊢
              have := HN.out
              unfold nx at this ⊢
              omega
            · rw [if_neg (fun e => hq e.symm)] at h2
              rw [if_neg hq]
              unfold nx
              omega)
          exact h1
        · have h1 := ((HS.out.below HBW.out hgl).set (n * 2) (.int .i64 x) (by rw [recs_length]; omega)).set (n * 2 + 1) (.int .i64 y) (by rw [List.length_set, recs_length]; omega)
          rw [recs_set S n (x, y) (by omega)] at h1
          exact h1.but hb2 hng2)
      clear HSTEP HNX HN HT HS HB HBA HBW HRC HCALL
      go_wp2_with fail
      go_region
      all_goals (
        go_wp2_with fail
        go_roundw
        case rel => exact ⟨k + 1, by omega, by go_num, HRES.out⟩
        case measure => simp [intOf]; omega)
    · have hltz : ¬ (k : Int) < (l.length : Int) := by omega
      obtain rfl : k = l.length := by omega
      obtain ⟨S, hT, hS, hFl, hB⟩ := HD.out
      have HRES : Hid (RowOfC M w (.returned (.slice (some ⟨gs, 0, none⟩) l.length l.length)) wr) := Lib.hid (by
        have hl := hFl.1
        have e := HDONE.out S hFl
        rw [e] at hl hS
        exact ⟨gs, l.length, by rw [hl], Nat.le_of_eq hl, Nat.le_trans hgn (Nat.le_of_lt hgsn), hS, hB⟩)
      clear hT hS hFl hB HD HF HPR HDONE
      go_wp2_with fail
      go_ret
      exact HRES.out

end Go.Proofs.Ytagibgphegoagaa
end

section
/- slices.Clone at lists of numbers, by its contract. -/
namespace Go.Proofs.Ytagibgphegoagaa
open Go.RowKit

attribute [local go_sem ↓ high] builtin_append_held

set_option maxRecDepth 100000 in
theorem cloneInts_any (b o c : Nat) (l : List Int) (w : World) (hv : FlatAt w (.slice (some ⟨b, o, none⟩) l.length c) l.length (ints l)) (hn : l.length ≤ 1048576) :
    Calls Try.prog 159 #[.slice (some ⟨b, o, none⟩) l.length c] w (RowI l w) := by
  obtain ⟨a, c', he, _, h⟩ := hv
  simp at he
  obtain ⟨rfl, rfl⟩ := he
  have hst := Held.start w w.heap.size (Nat.le_refl _)
  have hb0 : Below w.heap.size w (w.alloc (.cells #[] 3)) := (Below.refl _ _).alloc (Nat.le_refl _) _
  obtain ⟨v1, w1, hrun, hH, hb1⟩ := appendMany w.heap.size _ [] b o c l _ hst hb0.size (by simp; omega) (fun j u hu => by
    obtain ⟨b', o', e, hbb, hcell⟩ := h j u hu
    simp at e
    obtain ⟨rfl, rfl⟩ := e
    exact (hb0.cell (p := ⟨b, o + j, none⟩) hbb).trans hcell)
  rw [List.nil_append] at hH
  obtain ⟨g, cg, rfl, hg, hcg, hrow⟩ := hH.row
  have HRES : Hid (RowI l w (.returned (.slice (some ⟨g, 0, none⟩) l.length cg)) w1) := Lib.hid ⟨g, cg, rfl, hcg, hg, hrow, hb0.trans hb1⟩
  clear h hst hb0 hH hb1 hg hcg hrow
  have q22 : ∀ (w : World) (a : Option Addr) (n c n' c' : Nat), (binOp .eql 34 (.slice a n c) (.slice none n' c')).run Try.prog w = .ok (.bool a.isNone) w := fun w a n c n' c' => Lib.run_eql_slice_nil w _ _ a n c n' c' Try.underlying34
  go_enter Try.func159, Try.ntmps159
  go_wp2_with fail
  go_ret
  exact HRES.out

end Go.Proofs.Ytagibgphegoagaa
end

section
/- The sorting permutation: a permutation, in the order of the numbers and of the indices where they tie. Nothing of the program. -/
namespace Go.Proofs.Ytagibgphegoagaa
open Go.RowKit P

theorem sortTo_perm (l : List Int) : ∀ n, (sortTo l n).Perm (iota n)
  | 0 => by simp [sortTo, iota]
  | n + 1 => by
    have ih := sortTo_perm l n
    have e0 := List.takeWhile_append_dropWhile (p := fun x => decide (keyOf l x ≤ keyOf l (n : Int))) (l := sortTo l n)
    rw [iota_succ]
    show ((sortTo l n).takeWhile (fun x => decide (keyOf l x ≤ keyOf l (n : Int))) ++ [(n : Int)] ++ (sortTo l n).dropWhile (fun x => decide (keyOf l x ≤ keyOf l (n : Int)))).Perm _
    have h1 : ((sortTo l n).takeWhile (fun x => decide (keyOf l x ≤ keyOf l (n : Int))) ++ [(n : Int)] ++ (sortTo l n).dropWhile (fun x => decide (keyOf l x ≤ keyOf l (n : Int)))).Perm ((n : Int) :: sortTo l n) := by
      rw [List.append_assoc]
      refine List.perm_middle.trans ?_
      rw [show (∀ X : List Int, [].append X = X) from fun _ => rfl, e0]
    exact h1.trans ((ih.cons _).trans (List.perm_append_singleton _ _).symm)
/-- In the order of the numbers, and of the indices where they tie. -/
theorem sortTo_lex (l : List Int) : ∀ n, (sortTo l n).Pairwise (fun x y => keyOf l x < keyOf l y ∨ (keyOf l x = keyOf l y ∧ x < y))
  | 0 => by simp [sortTo]
  | n + 1 => by
    have ih := sortTo_lex l n
    have hof := sortTo_of l n
    have e0 := List.takeWhile_append_dropWhile (p := fun x => decide (keyOf l x ≤ keyOf l (n : Int))) (l := sortTo l n)
    have hof2 := (sortTo_of l (n + 1)).sorted
    have e1 : sortTo l (n + 1) = (sortTo l n).takeWhile (fun x => decide (keyOf l x ≤ keyOf l (n : Int))) ++ [(n : Int)] ++ (sortTo l n).dropWhile (fun x => decide (keyOf l x ≤ keyOf l (n : Int))) := rfl
    rw [e1]
    rw [← e0] at ih
    obtain ⟨p1, p2, p3⟩ := List.pairwise_append.1 ih
    have hdrop : ∀ y ∈ (sortTo l n).dropWhile (fun x => decide (keyOf l x ≤ keyOf l (n : Int))), keyOf l (n : Int) < keyOf l y := by
      intro y hy
      cases hd : (sortTo l n).dropWhile (fun x => decide (keyOf l x ≤ keyOf l (n : Int))) with
      | nil => rw [hd] at hy; simp at hy
      | cons z r =>
        have hz := List.head_dropWhile_not (fun x => decide (keyOf l x ≤ keyOf l (n : Int))) (l := sortTo l n) (by rw [hd]; simp)
        simp only [hd, List.head_cons] at hz
        have hz2 : keyOf l (n : Int) < keyOf l z := by simpa using hz
        rw [hd] at hy p2
        rcases List.mem_cons.1 hy with e | e
        · rw [e]; exact hz2
        · have := (List.pairwise_cons.1 p2).1 y e; omega
    rw [List.append_assoc]
    refine List.pairwise_append.2 ⟨p1, List.pairwise_append.2 ⟨by simp, p2, fun a ha b hb => ?_⟩, fun a ha b hb => ?_⟩
    · rw [List.mem_singleton.1 ha]; exact .inl (hdrop b hb)
    · rcases List.mem_append.1 hb with hb | hb
      · rw [List.mem_singleton.1 hb]
        have h1 := mem_takeWhile ha
        have h2 : a ∈ sortTo l n := by rw [← e0]; exact List.mem_append_left _ ha
        have h3 := iota_mem.1 ((sortTo_perm l n).mem_iff.1 h2)
        have h4 : keyOf l a ≤ keyOf l (n : Int) := by simpa using h1
        by_cases h5 : keyOf l a = keyOf l (n : Int)
        · exact .inr ⟨h5, h3.2⟩
        · exact .inl (by omega)
      · exact p3 a ha b hb
theorem sortTo_ok {l : List Int} (h : l.length ≤ 64) : OkP (sortTo l l.length) := OkP.of_perm (sortTo_perm l l.length) h

end Go.Proofs.Ytagibgphegoagaa
end

section
/- The identity, by its contract. -/
namespace Go.Proofs.Ytagibgphegoagaa
open Go.RowKit P

set_option maxRecDepth 100000 in
set_option maxHeartbeats 4000000 in
theorem identity_any (n : Nat) (w : World) (hn : n ≤ 1048576) :
    Calls Try.prog 135 #[.int .i64 (n : Int)] w fun e w' => e = .returned (.slice (some ⟨w.heap.size, 0, none⟩) n n) ∧ RowIs w' w.heap.size 3 (ints (iota n)) ∧ Below w.heap.size w w' := by
  have hmk := makeInts n hn
  have hil := iota_length n
  have HIL := Lib.hid hil
  have hrow : RowIs (w.alloc (.cells (ints (List.replicate n 0)).toArray 3)) w.heap.size 3 (ints (fill (iota n) 0 0)) := by
    rw [fill_zero, HIL.out]; exact heap_alloc_new w _
  have hb0 : Below w.heap.size w (w.alloc (.cells (ints (List.replicate n 0)).toArray 3)) := (Below.refl _ _).alloc (Nat.le_refl _) _
  have HROW := Lib.hid hrow
  have HB0 := Lib.hid hb0
  clear hrow hb0 hil
  go_enter Try.func135, Try.ntmps135
  go_wp2
  go_loopw [4, 9] (fun _ i wr => ∃ k : Nat, k ≤ n ∧ i = .int .i64 k ∧ RowIs wr w.heap.size 3 (ints (fill (iota n) 0 k)) ∧ Below w.heap.size w wr) (fun _ i _ => n - (intOf i).toNat)
  case atStart => exact ⟨0, Nat.zero_le _, rfl, HROW.out, HB0.out⟩
  case round =>
    obtain ⟨k, hk, rfl, hr, hb⟩ := hrel
    have HR := Lib.hid hr
    have HB := Lib.hid hb
    clear hr hb hmk HROW HB0
    by_cases hlt : k < n
    · have HP := Lib.hid (iota_at hlt)
      have hg1 : wr.cell? ⟨w.heap.size, k, none⟩ = some (.int .i64 0) := (HR.out.cell _).trans (ints_at (fill_at (d := (0 : Int)) (by rw [HIL.out]; exact hlt)))
      have hf1 := HR.out.frozen k
      go_wp2
      go_roundw
      case rel => exact ⟨k + 1, by omega, by go_num, by rw [← fill_set HP.out, ← ints_set]; exact HR.out.stored k _, HB.out.setCell (p := ⟨w.heap.size, k, none⟩) (Nat.le_refl _) _⟩
      case measure => simp [intOf]; omega
    · obtain rfl : k = n := by omega
      have HR2 : Hid (RowIs wr w.heap.size 3 (ints (iota k))) := Lib.hid (by have h := HR.out; have e := fill_all (iota k) (0 : Int); rw [HIL.out] at e; rw [e] at h; exact h)
      go_wp2
      go_ret
      exact ⟨rfl, HR2.out, HB.out⟩

end Go.Proofs.Ytagibgphegoagaa
end

section
/- InversePermutation, the program's and the model's, by one contract. -/
namespace Go.Proofs.Ytagibgphegoagaa
open Go.RowKit P

set_option maxRecDepth 100000 in
set_option maxHeartbeats 4000000 in
theorem implInv_any (v : Value) (l : List Int) (w : World) (hv : FlatAt w v l.length (ints l)) (hn : l.length ≤ 1048576) :
    Calls Try.prog 86 #[v] w (RetI (invF l) w) := by
  have HV := Lib.hid hv
  obtain ⟨a, c, rfl, _, h⟩ := hv
  have H := Lib.hid h
  clear h
  by_cases hok : OkP l
  · have hd : decide (OkP l) = true := decide_eq_true hok
    have HOK := Lib.hid hok
    rw [invF_yes hok]
    clear hok
    have hmk := fun W => makeInts l.length hn W
    go_enter Try.func86, Try.ntmps86
    go_wp2_with fail
    refine (implValidPerm_any _ l w HV.out hn).mono ?_
    rw [hd]
    rintro e w1 ⟨rfl, hb1⟩
    have HB1 := Lib.hid hb1
    have hmk1 := hmk w1
    have HROW := Lib.hid (heap_alloc_new w1 (.cells (ints (List.replicate l.length 0)).toArray 3))
    have HB2 : Hid (Below w1.heap.size w1 (w1.alloc (.cells (ints (List.replicate l.length 0)).toArray 3))) := Lib.hid ((Below.refl _ _).alloc (Nat.le_refl _) _)
    clear hb1 hmk hd
    go_wp2_with fail
    go_loopw [5, 6, 16] (fun _ _ i wr => ∃ k : Nat, k ≤ l.length ∧ i = .int .i64 k ∧ RowIs wr w1.heap.size 3 (ints (invTo l k)) ∧ Below w1.heap.size w1 wr) (fun _ _ i _ => l.length - (intOf i).toNat)
    case atStart => exact ⟨0, Nat.zero_le _, rfl, by rw [invTo_zero]; exact HROW.out, HB2.out⟩
    case round =>
      obtain ⟨k, hk, rfl, hr, hb⟩ := hrel
      have HR := Lib.hid hr
      have HB := Lib.hid hb
      clear hr hb hmk1 HROW HB2
      by_cases hlt : k < l.length
      · obtain ⟨p, hp⟩ : ∃ p, l[k]? = some p := ⟨_, List.getElem?_eq_getElem hlt⟩
        obtain ⟨b, o, rfl, hbb, hc1⟩ := H.out _ _ (ints_at hp)
        have hw1 : wr.cell? ⟨b, o + k, none⟩ = some (.int .i64 p) := (HB.out.cell (p := ⟨b, o + k, none⟩) (Nat.lt_of_lt_of_le hbb HB1.out.size)).trans ((HB1.out.cell (p := ⟨b, o + k, none⟩) hbb).trans hc1)
        have hv := HOK.out.at hp
        obtain ⟨e, rfl⟩ : ∃ e : Nat, p = e := ⟨p.toNat, by omega⟩
        have he : e < l.length := by omega
        have HP := Lib.hid hp
        obtain ⟨u, hu⟩ : ∃ u, (invTo l k)[e]? = some u := ⟨_, List.getElem?_eq_getElem (by rw [invTo_length]; exact he)⟩
        have hg1 : wr.cell? ⟨w1.heap.size, e, none⟩ = some (.int .i64 u) := (HR.out.cell _).trans (ints_at hu)
        have hf1 := HR.out.frozen e
        clear hc1 hp hv hu
        go_wp2
        go_roundw
        case rel => exact ⟨k + 1, by omega, by go_num, by rw [← invTo_set HOK.out HP.out, ← ints_set]; exact HR.out.stored e _, HB.out.setCell (p := ⟨w1.heap.size, e, none⟩) (Nat.le_refl _) _⟩
        case measure => simp [intOf]; omega
      · obtain rfl : k = l.length := by omega
        have HRES : Hid (RetI (invTo l l.length, true) w (.returned (.tuple #[.slice (some ⟨w1.heap.size, 0, none⟩) l.length l.length, .bool true])) wr) :=
          Lib.hid ⟨w1.heap.size, l.length, by rw [invTo_length], by rw [invTo_length]; exact Nat.le_refl _, HB1.out.size, CellRow.of_row HR.out, HB1.out.trans (HB.out.mono HB1.out.size)⟩
        go_wp2_with fail
        go_ret2
        exact HRES.out
  · have hd : decide (OkP l) = false := decide_eq_false hok
    rw [invF_no hok]
    clear hok
    go_enter Try.func86, Try.ntmps86
    go_wp2_with fail
    refine (implValidPerm_any _ l w HV.out hn).mono ?_
    rw [hd]
    rintro e w1 ⟨rfl, hb1⟩
    have HRES := Lib.hid (RetI.none w w1 hb1)
    clear hb1 hd
    go_wp2_with fail
    go_ret2
    exact HRES.out

end Go.Proofs.Ytagibgphegoagaa
end

section
/- The draw of a key, a base and a place, by contracts. -/
namespace Go.Proofs.Ytagibgphegoagaa
open Go.RowKit
set_option linter.unusedVariables false

/-- One of the first numbers of a literal. -/
theorem amongF_any (B g : Nat) (a : Option Addr) (len cap : Nat) (m : Nat) (gl : Nat) (l : List Int) (c : Nat) (w : World) (h : Cur B g a len cap m w) (hm : m ≤ 1000000) (hl : CellRow w gl (ints l)) (hg : gl ≠ g) (hn : 1 ≤ l.length) (hn2 : l.length ≤ 1000000) :
    Calls Try.prog 65 #[.pointer (some ⟨g, 0, none⟩), .slice (some ⟨gl, 0, none⟩) l.length c] w (OfC B g a len cap m (l.map (Value.int .i64)) w) := by
  have H := Lib.hid h
  have HL := Lib.hid hl
  clear h hl
  go_enter Try.func65, Try.ntmps65
  go_wp2_with fail
  refine (pick_any B g a len cap m _ _ H.out hm (by omega)).mono ?_
  rintro e w1 ⟨r, hr0, hr1, rfl, hc, hb⟩
  obtain ⟨k, rfl⟩ : ∃ k : Nat, r = k := ⟨r.toNat, by omega⟩
  have hk : k < l.length := by omega
  have hcell : w1.cell? ⟨gl, k, none⟩ = some (.int .i64 l[k]) := ((HL.out.but hb hg).2 k _ (ints_at (List.getElem?_eq_getElem hk))).1
  have HM : Hid (Value.int .i64 l[k] ∈ l.map (Value.int .i64)) := Lib.hid (List.mem_map.2 ⟨_, List.getElem_mem hk, rfl⟩)
  have H1 := Lib.hid hc
  have HB1 := Lib.hid hb
  clear H hc hb HL hr1 hr0
  go_wp2_with fail
  go_ret
  exact ⟨_, HM.out, rfl, H1.out, HB1.out⟩

theorem amongN_any (B g : Nat) (a : Option Addr) (len cap : Nat) (m : Nat) (gl : Nat) (l : List Int) (n c : Nat) (w : World) (h : Cur B g a len cap m w) (hm : m ≤ 1000000) (hr : CellRow w gl (ints l)) (hg : gl ≠ g) (hn : 1 ≤ n) (hn2 : n ≤ l.length) (hn3 : l.length ≤ 100) :
    Calls Try.prog 65 #[.pointer (some ⟨g, 0, none⟩), .slice (some ⟨gl, 0, none⟩) n c] w fun e w' => ∃ y ∈ l, e = .returned (.int .i64 y) ∧ Cur B g a len cap (m + 2) w' ∧ But g w w' := by
  have hl : (l.take n).length = n := by simp; omega
  have := amongF_any B g a len cap m gl (l.take n) c w h hm (by
    refine ⟨hr.1, fun j u hu => hr.2 j u ?_⟩
    have hj := (List.getElem?_eq_some_iff.1 hu).1
    rw [ints_length, hl] at hj
    unfold ints at hu ⊢
    rw [List.getElem?_map, List.getElem?_take_of_lt hj] at hu
    rw [List.getElem?_map]; exact hu) hg (by omega) (by omega)
  rw [hl] at this
  refine this.mono fun e w' hq => ?_
  obtain ⟨x, hx, rfl, hc, hb⟩ := hq
  obtain ⟨y, hy, rfl⟩ := List.mem_map.1 hx
  exact ⟨y, List.mem_of_mem_take hy, rfl, hc, hb⟩

set_option maxRecDepth 100000 in
set_option maxHeartbeats 1000000 in
theorem baseC_any (B g : Nat) (a : Option Addr) (len cap : Nat) (m : Nat) (w : World) (h : Cur B g a len cap m w) (hm : m ≤ 900000) :
    Calls Try.prog 64 #[.pointer (some ⟨g, 0, none⟩)] w fun e w' => ∃ d : Nat, 1 ≤ d ∧ d ≤ 257 ∧ e = .returned (.int .i64 (d : Int)) ∧ Cur B g a len cap (m + 4) w' ∧ But g w w' := by
  obtain ⟨W1, hW1⟩ : ∃ W1, W1 = w.alloc (.cells #[.int .i64 2, .int .i64 3, .int .i64 10, .int .i64 16, .int .i64 256, .int .i64 257, .int .i64 1] 3) := ⟨_, rfl⟩
  have hrow : RowIs W1 w.heap.size 3 (ints [2, 3, 10, 16, 256, 257, 1]) := by rw [hW1]; exact heap_alloc_new w _
  have HR := Lib.hid (CellRow.of_row hrow)
  have H1 : Hid (Cur B g a len cap m W1) := Lib.hid (by rw [hW1]; exact h.alloc _)
  have HB1 : Hid (But g w W1) := Lib.hid (by rw [hW1]; exact But.alloc g w _)
  have hgl := h.lt
  have hne : w.heap.size ≠ g := by omega
  clear h hrow
  go_enter Try.func64, Try.ntmps64
  go_wp2_with fail
  rw [← hW1]
  refine (pick_any B g a len cap m 9 W1 H1.out (by omega) (by omega)).mono ?_
  rintro e w2 ⟨r, hr0, hr1, rfl, hc, hb⟩
  have H2 := Lib.hid hc
  have HB2 := Lib.hid (HB1.out.trans hb)
  have HR2 := Lib.hid (HR.out.but hb hne)
  obtain ⟨k, rfl⟩ : ∃ k : Nat, r = k := ⟨r.toNat, by omega⟩
  have hk : k < 9 := by omega
  obtain ⟨n, hn⟩ : ∃ n, n = 5 + k / 4 := ⟨_, rfl⟩
  have hn9 : n ≤ 7 := by omega
  have hn7 : 5 ≤ n := by omega
  have hwn : (5 : Int) + (k : Int) / 4 = (n : Int) := by omega
  obtain ⟨G, hG⟩ : ∃ G, G = w.heap.size := ⟨_, rfl⟩
  have HA := Lib.hid (fun (W : World) (c : Nat) (hW : Cur B g a len cap (m + 2) W) (hr : CellRow W G (ints [2, 3, 10, 16, 256, 257, 1])) => amongN_any B g a len cap (m + 2) G [2, 3, 10, 16, 256, 257, 1] n c W hW (by omega) hr (by rw [hG]; exact hne) (by omega) (by simp; omega) (by simp))
  rw [← hG] at HR2 ⊢
  clear hc hb hr0 hr1 hn HR H1 HB1 hW1 hG hne
  go_wp2_with fail
  refine (HA.out _ _ H2.out HR2.out).mono ?_
  rintro e w3 ⟨y, hy, rfl, hc3, hb3⟩
  have hy2 : 1 ≤ y ∧ y ≤ 257 := by simp at hy; omega
  obtain ⟨d, rfl⟩ : ∃ d : Nat, y = d := ⟨y.toNat, by omega⟩
  have HC3 := Lib.hid hc3
  have HB3 := Lib.hid (HB2.out.trans hb3)
  clear hy hc3 hb3 HA HR2
  go_wp2_with fail
  go_ret
  exact ⟨d, by omega, by omega, rfl, HC3.out, HB3.out⟩

set_option maxRecDepth 100000 in
set_option maxHeartbeats 1000000 in
theorem keyC_any (B g : Nat) (a : Option Addr) (len cap : Nat) (m : Nat) (w : World) (h : Cur B g a len cap m w) (hm : m ≤ 900000) :
    Calls Try.prog 63 #[.pointer (some ⟨g, 0, none⟩)] w fun e w' => ∃ d : Int, -100001 ≤ d ∧ d ≤ 100001 ∧ e = .returned (.int .i64 d) ∧ Cur B g a len cap (m + 6) w' ∧ But g w w' := by
  have H := Lib.hid h
  clear h
  go_enter Try.func63, Try.ntmps63
  go_wp2_with fail
  refine (pick_any B g a len cap m 200 w H.out (by omega) (by omega)).mono ?_
  rintro e w0 ⟨z, hz0, hz1, rfl, hc, hb⟩
  have hz2 : z < 200 := by omega
  obtain ⟨x, hx⟩ : ∃ x, x = z - 100 := ⟨_, rfl⟩
  have hzx : z - 100 = x := hx.symm
  obtain ⟨W1, hW1⟩ : ∃ W1, W1 = w0.alloc (.cells #[.int .i64 x, .int .i64 0, .int .i64 100000, .int .i64 (-100000), .int .i64 100001, .int .i64 12345] 3) := ⟨_, rfl⟩
  have hrow : RowIs W1 w0.heap.size 3 (ints [x, 0, 100000, -100000, 100001, 12345]) := by rw [hW1]; exact heap_alloc_new w0 _
  have HR := Lib.hid (CellRow.of_row hrow)
  have H1 : Hid (Cur B g a len cap (m + 2) W1) := Lib.hid (by rw [hW1]; exact hc.alloc _)
  have HB1 : Hid (But g w W1) := Lib.hid (by rw [hW1]; exact hb.trans (But.alloc g w0 _))
  have hgl := hc.lt
  have hne : w0.heap.size ≠ g := by omega
  have hxb : -100 ≤ x ∧ x < 100 := by omega
  clear hrow hc hb H hx
  go_wp2_with fail
  rw [← hW1]
  refine (pick_any B g a len cap (m + 2) 5 W1 H1.out (by omega) (by omega)).mono ?_
  rintro e w2 ⟨r, hr0, hr1, rfl, hc, hb⟩
  have H2 := Lib.hid hc
  have HB2 := Lib.hid (HB1.out.trans hb)
  have HR2 := Lib.hid (HR.out.but hb hne)
  obtain ⟨k, rfl⟩ : ∃ k : Nat, r = k := ⟨r.toNat, by omega⟩
  have hk : k < 5 := by omega
  obtain ⟨n, hn⟩ : ∃ n, n = 4 + k / 2 := ⟨_, rfl⟩
  have hn9 : n ≤ 6 := by omega
  have hn7 : 4 ≤ n := by omega
  have hwn : (4 : Int) + (k : Int) / 2 = (n : Int) := by omega
  obtain ⟨G, hG⟩ : ∃ G, G = w0.heap.size := ⟨_, rfl⟩
  have HA := Lib.hid (fun (W : World) (c : Nat) (hW : Cur B g a len cap (m + 4) W) (hr : CellRow W G (ints [x, 0, 100000, -100000, 100001, 12345])) => amongN_any B g a len cap (m + 4) G [x, 0, 100000, -100000, 100001, 12345] n c W hW (by omega) hr (by rw [hG]; exact hne) (by omega) (by simp; omega) (by simp))
  rw [← hG] at HR2 ⊢
  clear hc hb hr0 hr1 hn HR H1 HB1 hW1 hG hne hz0 hz1 hzx
  go_wp2_with fail
  refine (HA.out _ _ H2.out HR2.out).mono ?_
  rintro e w3 ⟨y, hy, rfl, hc3, hb3⟩
  have hy2 : -100001 ≤ y ∧ y ≤ 100001 := by simp at hy; omega
  have HC3 := Lib.hid hc3
  have HB3 := Lib.hid (HB2.out.trans hb3)
  clear hy hc3 hb3 HA HR2
  go_wp2_with fail
  go_ret
  exact ⟨y, by omega, by omega, rfl, HC3.out, HB3.out⟩

/-- A key, a base and a place, or nearly so. -/
def KbpD (w : World) (e : Ending) (w' : World) : Prop :=
  ∃ (k : Int) (b : Nat) (p : Int), -100001 ≤ k ∧ k ≤ 100001 ∧ 1 ≤ b ∧ b ≤ 257 ∧ -1 ≤ p ∧ p ≤ 18 ∧ e = .returned (.tuple #[.int .i64 k, .int .i64 (b : Int), .int .i64 p]) ∧ Below w.heap.size w w'

set_option maxRecDepth 100000 in
set_option maxHeartbeats 4000000 in
theorem drawDigitOf_any (a : Option Addr) (len cap : Nat) (w : World) (h : Code0 w a len) :
    Calls Try.prog 19 #[.slice a len cap] w (KbpD w) := by
  have H := Lib.hid (cur_new h cap 72)
  have hb0 : (w.alloc (.cells #[.slice a len cap, .int .i64 0, .int .u64 0] 72)).heap.size = w.heap.size + 1 := by simp
  have HB0 : Hid (Below w.heap.size w (w.alloc (.cells #[.slice a len cap, .int .i64 0, .int .u64 0] 72))) := Lib.hid ((Below.refl _ _).alloc (Nat.le_refl _) _)
  clear h
  go_enter Try.func19, Try.ntmps19
  go_wp2_with fail
  refine (keyC_any w.heap.size w.heap.size a len cap 0 _ H.out (by omega)).mono ?_
  rintro e w1 ⟨x, hx0, hx1, rfl, hc, hb⟩
  have HC1 := Lib.hid hc
  have HB1 := Lib.hid (HB0.out.trans ((hb.below (Nat.le_refl _) HB0.out.size)))
  clear hc hb H hb0 HB0
  go_wp2_with fail
  refine (baseC_any w.heap.size w.heap.size a len cap _ _ HC1.out (by omega)).mono ?_
  rintro e w2 ⟨d, hd0, hd1, rfl, hc, hb⟩
  have HB2 := Lib.hid (HB1.out.trans ((hb.below (Nat.le_refl _) HB1.out.size)))
  obtain ⟨W1, hW1⟩ : ∃ W1, W1 = w2.alloc (.cells #[.int .i64 0, .int .i64 1, .int .i64 2, .int .i64 5, .int .i64 17, .int .i64 18, .int .i64 (-1)] 3) := ⟨_, rfl⟩
  have hrow : RowIs W1 w2.heap.size 3 (ints [0, 1, 2, 5, 17, 18, -1]) := by rw [hW1]; exact heap_alloc_new w2 _
  have HR := Lib.hid (CellRow.of_row hrow)
  have H1 : Hid (Cur w.heap.size w.heap.size a len cap 10 W1) := Lib.hid (by rw [hW1]; exact hc.alloc _)
  have HB3 : Hid (Below w.heap.size w W1) := Lib.hid (by rw [hW1]; exact HB2.out.alloc HB2.out.size _)
  have hgl := hc.lt
  have hne : w2.heap.size ≠ w.heap.size := by omega
  clear hrow hc hb HC1 HB1 HB2
  go_wp2_with fail
  rw [← hW1]
  refine (pick_any w.heap.size w.heap.size a len cap 10 9 W1 H1.out (by omega) (by omega)).mono ?_
  rintro e w3 ⟨r, hr0, hr1, rfl, hc, hb⟩
  have H2 := Lib.hid hc
  have HB4 := Lib.hid (HB3.out.trans (hb.below (Nat.le_refl _) HB3.out.size))
  have HR2 := Lib.hid (HR.out.but hb hne)
  obtain ⟨k, rfl⟩ : ∃ k : Nat, r = k := ⟨r.toNat, by omega⟩
  have hk : k < 9 := by omega
  obtain ⟨n, hn⟩ : ∃ n, n = 5 + k / 4 := ⟨_, rfl⟩
  have hn9 : n ≤ 7 := by omega
  have hn7 : 5 ≤ n := by omega
  have hwn : (5 : Int) + (k : Int) / 4 = (n : Int) := by omega
  obtain ⟨G, hG⟩ : ∃ G, G = w2.heap.size := ⟨_, rfl⟩
  have HA := Lib.hid (fun (W : World) (c : Nat) (hW : Cur w.heap.size w.heap.size a len cap 12 W) (hr : CellRow W G (ints [0, 1, 2, 5, 17, 18, -1])) => amongN_any w.heap.size w.heap.size a len cap 12 G [0, 1, 2, 5, 17, 18, -1] n c W hW (by omega) hr (by rw [hG]; exact hne) (by omega) (by simp; omega) (by simp))
  rw [← hG] at HR2 ⊢
  clear hc hb hr0 hr1 hn HR H1 HB3 hW1 hG hne
  go_wp2_with fail
  refine (HA.out _ _ H2.out HR2.out).mono ?_
  rintro e w4 ⟨y, hy, rfl, hc3, hb3⟩
  have hy2 : -1 ≤ y ∧ y ≤ 18 := by simp at hy; omega
  have HRES : Hid (KbpD w (.returned (.tuple #[.int .i64 x, .int .i64 (d : Int), .int .i64 y])) w4) := Lib.hid ⟨x, d, y, hx0, hx1, hd0, hd1, hy2.1, hy2.2, rfl, HB4.out.trans (hb3.below (Nat.le_refl _) HB4.out.size)⟩
  clear hy hc3 hb3 HA HR2 HB4
  go_wp2_with fail
  go_ret3
  exact HRES.out

end Go.Proofs.Ytagibgphegoagaa
end

section
/- The draws of lists of numbers (ints), by their contract: a short valid list in a new row, and nothing but the cursor moved. -/
namespace Go.Proofs.Ytagibgphegoagaa
open Go.RowKit

attribute [local go_sem ↓ high] builtin_append_held

theorem But.then_below {g : Nat} {w a b : World} (h : But g w a) (k : Below w.heap.size a b) : But g w b :=
  ⟨k.os.trans h.os, k.tape.trans h.tape, k.output.trans h.output, Nat.le_trans h.size k.size, fun i hi hg => (k.block i hi).trans (h.block i hi hg)⟩

theorem own_but {w w' : World} {base g : Nat} {e : TypeId} {size n : Nat} {v : Value} {xs : List Value} (h : w.ownsRow base e size v n xs) (hb : But g w w') (hB : g < base) : w'.ownsRow base e size v n xs := by
  have hlt := h.lt
  refine ⟨h.1, ?_⟩
  rcases h.2 with hn | ⟨j, cap, cur, rfl, h1, hg, rest⟩
  · exact .inl hn
  · have := hlt j rfl
    exact .inr ⟨j, cap, cur, rfl, h1, (hb.block j this.2 (by omega)).trans hg, rest⟩

theorem infoIntA : (Try.prog.info? 3).map (fun i => (i.zero, i.size, i.bytes)) = some (some (.int .i64 0), 1, 8) := by kernel_rfl

/-- 'append(l, n)' of one number to a row of its own. -/
theorem appendInt (base : Nat) (v : Value) (L : List Int) (x : Int) (w : World) (h : w.ownsRow base 3 1 v L.length (ints L)) (hb : base ≤ w.heap.size) (hn : L.length ≤ 1048576) :
    ∃ v' w', (heldAppend #[34, 34] 34 #[v, .slice (some ⟨w.heap.size, 0, none⟩) 1 1]).run Try.prog (w.alloc (.cells #[.int .i64 x] 3)) = .ok v' w' ∧
      w'.ownsRow base 3 1 v' (L ++ [x]).length (ints (L ++ [x])) ∧ Below base w w' := by
  obtain ⟨i0, hi, hz0, hz1, hz2⟩ := info_parts infoIntA
  obtain ⟨v', w', hrun, hown, hgrow, _⟩ := run_append_own (P := Try.prog) (w := w.alloc (.cells #[.int .i64 x] 3)) base 34 34 3 i0 (.int .i64 0) 1 8 Try.underlying34 hi hz0 hz1 hz2 rfl (by decide)
    _ L.length (ints L) (World.ownsRow.alloc h _) ⟨w.heap.size, 0, none⟩ 1 1 [.int .i64 x] rfl (cell_one_new w _ _) (by simp [Value.oneCell']) (by unfold maxLen; omega) (by omega) (by simp; omega)
  refine ⟨v', w', hrun, ?_, ((Below.refl base w).alloc hb _).grown hgrow (by simp; omega) (fun j e => (h.lt j e).1)⟩
  rw [ints_append, List.length_append]
  exact hown

/-- A short valid list. -/
def IntsC (B g : Nat) (a : Option Addr) (len cap : Nat) (m : Nat) (w : World) (e : Ending) (w' : World) : Prop :=
  ∃ (v : Value) (l : List Int), l.length ≤ 24 ∧ (∀ x ∈ l, -100000 ≤ x ∧ x ≤ 100000) ∧ e = .returned v ∧ w'.ownsRow w.heap.size 3 1 v l.length (ints l) ∧ Cur B g a len cap (m + 200) w' ∧ But g w w'

set_option maxRecDepth 100000 in
set_option maxHeartbeats 4000000 in
theorem ints_any (B g : Nat) (a : Option Addr) (len cap : Nat) (m : Nat) (w : World) (h : Cur B g a len cap m w) (hm : m ≤ 900000) :
    Calls Try.prog 162 #[.pointer (some ⟨g, 0, none⟩)] w (IntsC B g a len cap m w) := by
  have H := Lib.hid h
  have hgl := h.lt
  clear h
  go_enter Try.func162, Try.ntmps162
  go_wp2_with fail
  refine (pick_any B g a len cap m 9 _ (H.out.alloc _) (by omega) (by omega)).mono ?_
  rintro e w1 ⟨n, hn0, hn1, rfl, hc, hb⟩
  obtain ⟨n, rfl⟩ : ∃ k : Nat, n = k := ⟨n.toNat, by omega⟩
  have hn : n ≤ 8 := by omega
  have HC1 := Lib.hid hc
  have HB1 := Lib.hid ((But.alloc g w (.cells #[] 3)).trans hb)
  have HO1 : Hid (w1.ownsRow w.heap.size 3 1 (.slice (some ⟨w.heap.size, 0, none⟩) 0 0) ([] : List Int).length (ints [])) := Lib.hid (own_but (World.ownsRow_made w #[] 0 (Nat.le_refl _) (by decide) rfl) hb hgl)
  clear hc hb hn0 hn1 H
  go_wp2_with fail
  refine (one_any B g a len cap _ 6 _ HC1.out (by omega) (by omega)).mono ?_
  rintro e w2 ⟨b, rfl, hc, hb⟩
  have HC2 := Lib.hid hc
  have HB2 := Lib.hid (HB1.out.trans hb)
  have HO2 := Lib.hid (own_but HO1.out hb hgl)
  clear hc hb HC1 HB1 HO1
  cases b
  · go_wp2_with fail
    go_loopw [3, 4] (fun v n wr => ∃ (k : Nat) (L : List Int), n = .int .i64 k ∧ k + L.length ≤ 24 ∧ (∀ x ∈ L, -100000 ≤ x ∧ x ≤ 100000) ∧ wr.ownsRow w.heap.size 3 1 v L.length (ints L) ∧ Cur B g a len cap (m + 8 + 4 * L.length) wr ∧ But g w wr) (fun _ n _ => (intOf n).toNat)
    case atStart => exact ⟨n, [], rfl, by simp; omega, by simp, HO2.out, HC2.out.more (by omega), HB2.out⟩
    case round =>
      obtain ⟨k, L, rfl, hkL, hall, hrow, hcur, hb⟩ := hrel
      have HALL := Lib.hid hall
      have HROW := Lib.hid hrow
      have HCUR := Lib.hid hcur
      have HB := Lib.hid hb
      clear hall hrow hcur hb HO2 HC2 HB2
      by_cases hk : 0 < k
      · have hk1 : ((k : Int) - 1) = ((k - 1 : Nat) : Int) := by omega
        go_wp2_with fail
        refine (one_any B g a len cap _ 8 _ HCUR.out (by omega) (by omega)).mono ?_
        rintro e w4 ⟨b, rfl, hc, hb⟩
        have HC4 := Lib.hid hc
        have HB4 := Lib.hid (HB.out.trans hb)
        have HO4 := Lib.hid (own_but HROW.out hb hgl)
        clear hc hb HROW HCUR HB
        cases b
        · go_wp2_with fail
          refine (pick_any B g a len cap _ 7 _ HC4.out (by omega) (by omega)).mono ?_
          rintro e w5 ⟨x, hx0, hx1, rfl, hc, hb⟩
          have hx : -100000 ≤ x ∧ x ≤ 100000 := by omega
          have HC5 := Lib.hid hc
          have HB5 := Lib.hid (HB4.out.trans hb)
          have hs5 := HB5.out.size
          obtain ⟨v', w6, hrun, hown, hbel⟩ := appendInt w.heap.size _ L x w5 (own_but HO4.out hb hgl) hs5 (by omega)
          have HO6 := Lib.hid hown
          have HC6 := Lib.hid (HC5.out.keep (hbel.mono (show g + 1 ≤ w.heap.size by omega)))
          have HB6 := Lib.hid (HB5.out.then_below hbel)
          have HA6 : Hid (∀ y ∈ L ++ [x], -100000 ≤ y ∧ y ≤ 100000) := Lib.hid (fun y hy => by
            rcases List.mem_append.1 hy with h | h
            · exact HALL.out y h
            · rw [List.mem_singleton.1 h]; exact hx)
          clear hc hb hown hbel HC4 HB4 HO4 HC5 HB5 hx0 hx1 HALL hx
          go_wp2_with fail
          go_roundw
          case rel => exact ⟨k - 1, L ++ [x], rfl, by simp; omega, HA6.out, HO6.out, HC6.out.more (by simp; omega), HB6.out⟩
          case measure => simp [intOf]; omega
        · go_wp2_with fail
          refine (among_lit B g a len cap _ [100000, -100000, 999, -5] 4 _ _ rfl rfl _ HC4.out (by omega) (by decide) (by decide)).mono ?_
          rintro e w5 ⟨y, hy, rfl, hc, hb⟩
          obtain ⟨x, hz, rfl⟩ := List.mem_map.1 hy
          have hx : -100000 ≤ x ∧ x ≤ 100000 := by simp only [List.mem_cons, List.not_mem_nil, or_false] at hz; omega
          have HC5 := Lib.hid hc
          have HB5 := Lib.hid (HB4.out.trans hb)
          have hs5 := HB5.out.size
          obtain ⟨v', w6, hrun, hown, hbel⟩ := appendInt w.heap.size _ L x w5 (own_but HO4.out hb hgl) hs5 (by omega)
          have HO6 := Lib.hid hown
          have HC6 := Lib.hid (HC5.out.keep (hbel.mono (show g + 1 ≤ w.heap.size by omega)))
          have HB6 := Lib.hid (HB5.out.then_below hbel)
          have HA6 : Hid (∀ y ∈ L ++ [x], -100000 ≤ y ∧ y ≤ 100000) := Lib.hid (fun y hy => by
            rcases List.mem_append.1 hy with h | h
            · exact HALL.out y h
            · rw [List.mem_singleton.1 h]; exact hx)
          clear hc hb hown hbel HC4 HB4 HO4 HC5 HB5 hy hz HALL hx
          go_wp2_with fail
          go_roundw
          case rel => exact ⟨k - 1, L ++ [x], rfl, by simp; omega, HA6.out, HO6.out, HC6.out.more (by simp; omega), HB6.out⟩
          case measure => simp [intOf]; omega
      · obtain rfl : k = 0 := by omega
        have HQ : Hid (∀ v, wr.ownsRow w.heap.size 3 1 v L.length (ints L) → IntsC B g a len cap m w (.returned v) wr) := Lib.hid (fun v hv => ⟨v, L, by omega, HALL.out, rfl, hv, HCUR.out.more (by omega), HB.out⟩)
        go_wp2_with fail
        go_ret
        exact HQ.out _ HROW.out
  · go_wp2_with fail
    refine (pick_any B g a len cap _ 24 _ HC2.out (by omega) (by omega)).mono ?_
    rintro e w3 ⟨n2, hn0, hn1, rfl, hc, hb⟩
    obtain ⟨n2, rfl⟩ : ∃ k : Nat, n2 = k := ⟨n2.toNat, by omega⟩
    have hn2 : n2 ≤ 24 := by omega
    have HC3 := Lib.hid hc
    have HB3 := Lib.hid (HB2.out.trans hb)
    have HO3 := Lib.hid (own_but HO2.out hb hgl)
    clear hc hb HC2 HB2 HO2 hn0 hn1
    go_wp2_with fail
    go_loopw [3, 4] (fun v n wr => ∃ (k : Nat) (L : List Int), n = .int .i64 k ∧ k + L.length ≤ 24 ∧ (∀ x ∈ L, -100000 ≤ x ∧ x ≤ 100000) ∧ wr.ownsRow w.heap.size 3 1 v L.length (ints L) ∧ Cur B g a len cap (m + 8 + 4 * L.length) wr ∧ But g w wr) (fun _ n _ => (intOf n).toNat)
    case atStart => exact ⟨n2, [], rfl, by simp; omega, by simp, HO3.out, HC3.out.more (by omega), HB3.out⟩
    case round =>
      obtain ⟨k, L, rfl, hkL, hall, hrow, hcur, hb⟩ := hrel
      have HALL := Lib.hid hall
      have HROW := Lib.hid hrow
      have HCUR := Lib.hid hcur
      have HB := Lib.hid hb
      clear hall hrow hcur hb HO3 HC3 HB3
      by_cases hk : 0 < k
      · have hk1 : ((k : Int) - 1) = ((k - 1 : Nat) : Int) := by omega
        go_wp2_with fail
        refine (one_any B g a len cap _ 8 _ HCUR.out (by omega) (by omega)).mono ?_
        rintro e w4 ⟨b, rfl, hc, hb⟩
        have HC4 := Lib.hid hc
        have HB4 := Lib.hid (HB.out.trans hb)
        have HO4 := Lib.hid (own_but HROW.out hb hgl)
        clear hc hb HROW HCUR HB
        cases b
        · go_wp2_with fail
          refine (pick_any B g a len cap _ 7 _ HC4.out (by omega) (by omega)).mono ?_
          rintro e w5 ⟨x, hx0, hx1, rfl, hc, hb⟩
          have hx : -100000 ≤ x ∧ x ≤ 100000 := by omega
          have HC5 := Lib.hid hc
          have HB5 := Lib.hid (HB4.out.trans hb)
          have hs5 := HB5.out.size
          obtain ⟨v', w6, hrun, hown, hbel⟩ := appendInt w.heap.size _ L x w5 (own_but HO4.out hb hgl) hs5 (by omega)
          have HO6 := Lib.hid hown
          have HC6 := Lib.hid (HC5.out.keep (hbel.mono (show g + 1 ≤ w.heap.size by omega)))
          have HB6 := Lib.hid (HB5.out.then_below hbel)
          have HA6 : Hid (∀ y ∈ L ++ [x], -100000 ≤ y ∧ y ≤ 100000) := Lib.hid (fun y hy => by
            rcases List.mem_append.1 hy with h | h
            · exact HALL.out y h
            · rw [List.mem_singleton.1 h]; exact hx)
          clear hc hb hown hbel HC4 HB4 HO4 HC5 HB5 hx0 hx1 HALL hx
          go_wp2_with fail
          go_roundw
          case rel => exact ⟨k - 1, L ++ [x], rfl, by simp; omega, HA6.out, HO6.out, HC6.out.more (by simp; omega), HB6.out⟩
          case measure => simp [intOf]; omega
        · go_wp2_with fail
          refine (among_lit B g a len cap _ [100000, -100000, 999, -5] 4 _ _ rfl rfl _ HC4.out (by omega) (by decide) (by decide)).mono ?_
          rintro e w5 ⟨y, hy, rfl, hc, hb⟩
          obtain ⟨x, hz, rfl⟩ := List.mem_map.1 hy
          have hx : -100000 ≤ x ∧ x ≤ 100000 := by simp only [List.mem_cons, List.not_mem_nil, or_false] at hz; omega
          have HC5 := Lib.hid hc
          have HB5 := Lib.hid (HB4.out.trans hb)
          have hs5 := HB5.out.size
          obtain ⟨v', w6, hrun, hown, hbel⟩ := appendInt w.heap.size _ L x w5 (own_but HO4.out hb hgl) hs5 (by omega)
          have HO6 := Lib.hid hown
          have HC6 := Lib.hid (HC5.out.keep (hbel.mono (show g + 1 ≤ w.heap.size by omega)))
          have HB6 := Lib.hid (HB5.out.then_below hbel)
          have HA6 : Hid (∀ y ∈ L ++ [x], -100000 ≤ y ∧ y ≤ 100000) := Lib.hid (fun y hy => by
            rcases List.mem_append.1 hy with h | h
            · exact HALL.out y h
            · rw [List.mem_singleton.1 h]; exact hx)
          clear hc hb hown hbel HC4 HB4 HO4 HC5 HB5 hy hz HALL hx
          go_wp2_with fail
          go_roundw
          case rel => exact ⟨k - 1, L ++ [x], rfl, by simp; omega, HA6.out, HO6.out, HC6.out.more (by simp; omega), HB6.out⟩
          case measure => simp [intOf]; omega
      · obtain rfl : k = 0 := by omega
        have HQ : Hid (∀ v, wr.ownsRow w.heap.size 3 1 v L.length (ints L) → IntsC B g a len cap m w (.returned v) wr) := Lib.hid (fun v hv => ⟨v, L, by omega, HALL.out, rfl, hv, HCUR.out.more (by omega), HB.out⟩)
        go_wp2_with fail
        go_ret
        exact HQ.out _ HROW.out

end Go.Proofs.Ytagibgphegoagaa
end

section
/- The program's DigitOf, by its contract. -/
namespace Go.Proofs.Ytagibgphegoagaa
open Go.RowKit Rx P
set_option linter.unusedVariables false

/-- The answer of an invalid call: no list. -/
theorem RetCE.none0 (w w1 : World) (hb : Below w.heap.size w w1) : RetCE ([], false) w (.returned (.tuple #[.slice none 0 0, .bool false])) w1 := .inr ⟨rfl, _, _, rfl, hb⟩
theorem Ret1CE.none0 (w w1 : World) (hb : Below w.heap.size w w1) : Ret1CE ([], 0, false) w (.returned (.tuple #[.slice none 0 0, .int .i64 0, .bool false])) w1 := .inr ⟨rfl, _, _, rfl, hb⟩
theorem RetIE.none0 (w w1 : World) (hb : Below w.heap.size w w1) : RetIE ([], false) w (.returned (.tuple #[.slice none 0 0, .bool false])) w1 := .inr ⟨rfl, _, _, rfl, hb⟩

theorem implDof_any (k b p : Int) (W : World) :
    Calls Try.prog 20 #[.int .i64 k, .int .i64 b, .int .i64 p] W fun e w' => e = .returned (.tuple #[.int .i64 (dofAll k b p).1, .bool (dofAll k b p).2]) ∧ Below W.heap.size W w' := by
  have HO := Lib.hid (fun W => isOutside_any k W)
  have HB := Lib.hid (fun W => isBP_any b p W)
  by_cases hk : -100000 ≤ k ∧ k ≤ 100000
  · have hko : outK k = false := by unfold outK; simp; omega
    rw [hko] at HO
    by_cases hbp : OkBP b p
    · rw [decide_eq_true hbp] at HB
      obtain ⟨⟨hb1, hb2⟩, hp1, hp2⟩ := hbp
      obtain ⟨b, rfl⟩ : ∃ n : Nat, b = n := ⟨b.toNat, by omega⟩
      obtain ⟨p, rfl⟩ : ∃ n : Nat, p = n := ⟨p.toNat, by omega⟩
      have HS := Lib.hid (fun W => shifted_any k W hk.1 hk.2)
      have HD := Lib.hid (fun W => digit_any (sk k) b p W (by omega) (by omega) (by omega) (sk_le hk.2))
      rw [← sk_eq hk.1] at HD
      have HF : Hid (dofAll k (b : Int) (p : Int) = (((dg b p (sk k) : Nat) : Int), true)) := Lib.hid (dofAll_yes ⟨hk, ⟨hb1, hb2⟩, hp1, hp2⟩)
      rw [HF.out]
      clear hk hko hb1 hb2 hp1 hp2 HF
      generalize dg b p (sk k) = r at *
      go_enter Try.func20, Try.ntmps20
      go_wp2_with fail
      refine (HO.out _).mono ?_
      rintro e w1 ⟨rfl, rfl⟩
      go_wp2_with fail
      refine (HB.out _).mono ?_
      rintro e w1 ⟨rfl, rfl⟩
      go_wp2_with fail
      refine (HS.out _).mono ?_
      rintro e w1 ⟨rfl, rfl⟩
      go_wp2_with fail
      refine (HD.out _).mono ?_
      rintro e w1 ⟨rfl, rfl⟩
      go_wp2_with fail
      go_ret2
      exact ⟨rfl, Below.refl _ _⟩
    · rw [decide_eq_false hbp] at HB
      have HF : Hid (dofAll k b p = (0, false)) := Lib.hid (dofAll_no fun h => hbp h.2)
      rw [HF.out]
      clear hk hko hbp HF
      go_enter Try.func20, Try.ntmps20
      go_wp2_with fail
      refine (HO.out _).mono ?_
      rintro e w1 ⟨rfl, rfl⟩
      go_wp2_with fail
      refine (HB.out _).mono ?_
      rintro e w1 ⟨rfl, rfl⟩
      go_wp2_with fail
      go_ret2
      exact ⟨rfl, Below.refl _ _⟩
  · have hko : outK k = true := by unfold outK; simp; omega
    rw [hko] at HO
    have HF : Hid (dofAll k b p = (0, false)) := Lib.hid (dofAll_no fun h => hk h.1)
    rw [HF.out]
    clear hk hko HF
    go_enter Try.func20, Try.ntmps20
    go_wp2_with fail
    refine (HO.out _).mono ?_
    rintro e w1 ⟨rfl, rfl⟩
    go_wp2_with fail
    go_ret2
    exact ⟨rfl, Below.refl _ _⟩


end Go.Proofs.Ytagibgphegoagaa
end

section
/- The answer of an invalid call: no list. -/
namespace Go.Proofs.Ytagibgphegoagaa
open Go.RowKit
set_option linter.unusedVariables false

theorem RetCE.nil0 (w w1 : World) (hb : Below w.heap.size w w1) : RetCE ([], false) w (.returned (.tuple #[.slice none 0 0, .bool false])) w1 := .inr ⟨rfl, _, _, rfl, hb⟩
theorem Ret1CE.nil0 (w w1 : World) (hb : Below w.heap.size w w1) : Ret1CE ([], 0, false) w (.returned (.tuple #[.slice none 0 0, .int .i64 0, .bool false])) w1 := .inr ⟨rfl, _, _, rfl, hb⟩
theorem RetIE.nil0 (w w1 : World) (hb : Below w.heap.size w w1) : RetIE ([], false) w (.returned (.tuple #[.slice none 0 0, .bool false])) w1 := .inr ⟨rfl, _, _, rfl, hb⟩

end Go.Proofs.Ytagibgphegoagaa
end

section
/- The places in the stable arrangement: the inverse of the sorting permutation. Nothing of the program. -/
namespace Go.Proofs.Ytagibgphegoagaa
open P
set_option linter.unusedVariables false

theorem keyOf_map (l : List (Int × Int)) (k : Nat) : keyOf (l.map (·.1)) (k : Int) = (l.getD k (0, 0)).1 := by
  unfold keyOf
  rw [Int.toNat_natCast]
  simp only [List.getD_eq_getElem?_getD, List.getElem?_map]
  cases l[k]? <;> rfl

def lx (K : List Int) (i : Int) (x : Int) : Bool := decide (keyOf K x < keyOf K i) || (decide (keyOf K x = keyOf K i) && decide (x < i))

theorem rk_count (l : List (Int × Int)) (i : Nat) : rk l i = (iota l.length).countP (lx (l.map (·.1)) (i : Int)) := by
  unfold rk iota
  rw [List.countP_map, List.countP_eq_length_filter]
  congr 1
  refine List.filter_congr fun k _ => ?_
  simp only [Function.comp, lx, keyOf_map]
  congr 2
  exact decide_eq_decide.2 (by omega)

theorem idx_rk (l : List (Int × Int)) {m i : Nat} (hm : (sortTo (l.map (·.1)) l.length)[m]? = some (i : Int)) : rk l i = m := by
  have hp := sortTo_perm (l.map (·.1)) l.length
  have hx := sortTo_lex (l.map (·.1)) l.length
  rw [rk_count, ← hp.countP_eq]
  generalize sortTo (l.map (·.1)) l.length = P at *
  generalize l.map (·.1) = K at *
  obtain ⟨hml, he⟩ := List.getElem?_eq_some_iff.1 hm
  have e : P = P.take m ++ P.drop m := (List.take_append_drop m P).symm
  have h1 : (P.take m).countP (lx K (i : Int)) = m := by
    have hall : ∀ a ∈ P.take m, lx K (i : Int) a = true := by
      intro a ha
      obtain ⟨j, hj, rfl⟩ := List.getElem_of_mem ha
      have hj' : j < m := by simp at hj; omega
      have := List.pairwise_iff_getElem.1 hx j m (by omega) hml hj'
      rw [he] at this
      rw [List.getElem_take]
      unfold lx
      rcases this with h | ⟨h, h2⟩
      · simp [h]
      · simp [h, h2]
    rw [List.countP_eq_length.2 hall, List.length_take]; omega
  have h2 : (P.drop m).countP (lx K (i : Int)) = 0 := by
    rw [List.countP_eq_zero]
    intro a ha
    obtain ⟨j, hj, rfl⟩ := List.getElem_of_mem ha
    rw [List.getElem_drop]
    have hjl : m + j < P.length := by simp at hj; omega
    unfold lx
    cases j with
    | zero => simp [he]
    | succ j =>
      have := List.pairwise_iff_getElem.1 hx m (m + (j + 1)) hml hjl (by omega)
      rw [he] at this
      generalize P[m + (j + 1)] = z at *
      simp only [Bool.or_eq_true, Bool.and_eq_true, decide_eq_true_eq]
      omega
  conv => lhs; rw [e]
  rw [List.countP_append, h1, h2]; omega

/-- The inverse of the sorting permutation of the keys. -/
theorem pos_inv {l : List (Int × Int)} (hok : OkR l) : invF (sortTo (l.map (·.1)) l.length) = (spF l, true) := by
  have hlm : (l.map (·.1)).length = l.length := by simp
  have hpo : OkP (sortTo (l.map (·.1)) l.length) := by
    have := sortTo_ok (l := l.map (·.1)) (by rw [hlm]; exact hok.1)
    rw [hlm] at this; exact this
  have hlen := sortTo_length (l.map (·.1)) l.length
  rw [invF_yes hpo]
  congr 1
  refine List.ext_getElem? fun j => ?_
  by_cases hj : j < l.length
  · have hmem := hpo.mem (x := (j : Int)) (by omega) (by rw [hlen]; omega)
    rw [invTo_at (by rw [hlen]; exact hj) hmem]
    have hg := at_idxOf hmem
    rw [← idx_rk l hg]
    unfold spF
    simp [hj]
  · rw [List.getElem?_eq_none (by rw [invTo_length, hlen]; omega), List.getElem?_eq_none (by rw [spF_len]; omega)]

theorem okL_map {l : List (Int × Int)} (h : OkR l) : OkL (l.map (·.1)) := ⟨by simpa using h.1, fun x hx => by
  obtain ⟨p, hp, rfl⟩ := List.mem_map.1 hx
  exact h.key hp⟩

end Go.Proofs.Ytagibgphegoagaa
end

section
/- The program's SortingPermutation, by its contract. -/
namespace Go.Proofs.Ytagibgphegoagaa
open Go.RowKit Go.Sort Go.Lib StC P

/-- Indices as elements of a finite type. -/
def fins (NN : Nat) : List (Fin (NN + 1)) := List.finRange (NN + 1)
def valsF {NN : Nat} (L : List (Fin (NN + 1))) : List Int := L.map fun x => (x.val : Int)
theorem valsF_length {NN : Nat} (L : List (Fin (NN + 1))) : (valsF L).length = L.length := by simp [valsF]
theorem valsF_fins (NN : Nat) : valsF (fins NN) = iota (NN + 1) := by
  unfold valsF fins
  apply List.ext_getElem?
  intro j
  by_cases hj : j < NN + 1
  · rw [iota_at hj]; simp [hj]
  · rw [List.getElem?_eq_none (by simp; omega), List.getElem?_eq_none (by rw [iota_length]; omega)]
theorem fins_length (NN : Nat) : (fins NN).length = NN + 1 := by simp [fins]

theorem flat_fins {NN : Nat} (L : List (Fin (NN + 1))) : flatK encF 1 L.toArray = (ints (valsF L)).toArray := by
  refine ext_get! (by simp [ints_length, valsF_length]) fun t ht => ?_
  have ht' : t < L.toArray.size * 1 := by simpa using ht
  rw [get_flatK _ _ _ _ ht']
  have hd : t < L.length := by simpa using ht'
  have h2 : t < (ints (valsF L)).length := by rw [ints_length, valsF_length]; exact hd
  simp only [Nat.div_one, Nat.mod_one]
  rw [show L.toArray[t]! = L[t] by simp [hd], show (ints (valsF L)).toArray[t]! = (ints (valsF L))[t] by simp [h2]]
  simp [ints, valsF, encF]

theorem holdsF_of_row {NN : Nat} {w : World} {g : Nat} {L : List (Fin (NN + 1))} (h : CellRow w g (ints (valsF L))) : HoldsK encF 1 w g 0 L.toArray := by
  unfold HoldsK
  rw [flat_fins]
  intro j hj
  have hj' : j < (ints (valsF L)).length := by simpa using hj
  have := h.2 j _ (List.getElem?_eq_getElem hj')
  rw [Nat.zero_add]
  have e : (ints (valsF L)).toArray[j]! = (ints (valsF L))[j] := by simp [hj']
  show _ = some (id ((ints (valsF L)).toArray[j]!)) ∧ _
  rw [e]; exact this

theorem row_of_sortedF {NN : Nat} {w0 w : World} {g : Nat} {d0 : Array (Fin (NN + 1))} {M : List (Fin (NN + 1))} (R : RowK encF 1 w0 g 0 d0) (S : SWK encF 1 w0 g 0 M.toArray w) (hs : M.length = d0.size) : CellRow w g (ints (valsF M)) := by
  have h := S.holds R.hblk R.hH (by simpa using hs)
  unfold HoldsK at h
  rw [flat_fins] at h
  refine ⟨S.lt R.hblk, fun j u hu => ?_⟩
  obtain ⟨hj, e⟩ := List.getElem?_eq_some_iff.1 hu
  have := h j (by simpa using hj)
  rw [Nat.zero_add] at this
  have e2 : (ints (valsF M)).toArray[j]! = u := by simp [hj, e]
  have e3 : id ((ints (valsF M)).toArray[j]!) = u := e2
  rw [e3] at this
  exact this

theorem but_of_sortedF {NN : Nat} {w0 w : World} {g : Nat} {d : Array (Fin (NN + 1))} (S : SWK encF 1 w0 g 0 d w) : But g w0 w := by
  obtain ⟨n, os, rfl⟩ := S
  refine ⟨rfl, rfl, rfl, ?_, fun k hk hg => ?_⟩
  · unfold sortWorldK; rw [size_grow, size_putRowK]; exact Nat.le_add_right _ _
  · unfold sortWorldK
    rw [heap_grow_old _ _ (by rw [size_putRowK]; exact hk)]
    show (w0.heap.modify g _)[k]? = _
    rw [Array.getElem?_modify, if_neg (fun e => hg e.symm)]

/-- The stable arrangement of all the indices under a comparison of them. -/
theorem arrange_any {NN : Nat} (cf : Fin (NN + 1) → Fin (NN + 1) → Int) (hO : SWO (ltOf cf)) (gf : Nat) (cb : Array Value) (eg : ∀ args w, (callFunc gf args).run Try.prog w = .ok (.enter gf args) w) (b c : Nat) (w : World) (hr : CellRow w b (ints (iota (NN + 1)))) (hn : NN + 1 ≤ 1048576)
    (hC : ∀ (W : World), Below w.heap.size w W → ∀ x y : Fin (NN + 1), Calls Try.prog gf (#[.int .i64 (x.val : Int), .int .i64 (y.val : Int)] ++ cb) W fun e w' => e = .returned (.int .i64 (cf x y)) ∧ ∃ q os', w' = grow (W.drewN q) os') (hcap : NN + 1 ≤ c) :
    Calls Try.prog 134 #[.slice (some ⟨b, 0, none⟩) (NN + 1) c, .func (.func gf) #[] cb] w fun e w' =>
      ∃ (g cg : Nat) (M : List (Fin (NN + 1))), e = .returned (.slice (some ⟨g, 0, none⟩) (NN + 1) cg) ∧ NN + 1 ≤ cg ∧ w.heap.size ≤ g ∧ CellRow w' g (ints (valsF M)) ∧ St (ltOf cf) (fins NN) M ∧ Below w.heap.size w w' := by
  have hil : (iota (NN + 1)).length = NN + 1 := iota_length _
  have HCL := Lib.hid (by have := cloneInts_any b 0 c (iota (NN + 1)) w (by have := hr.flat (c := c) (n := NN + 1) hcap; rw [hil]; exact this) (by rw [hil]; exact hn); rw [hil] at this; exact this)
  have HS := Lib.hid (fun (g cap : Nat) (W : World) (hw : Below w.heap.size w W) (hg : w.heap.size ≤ g) (hr : CellRow W g (ints (valsF (fins NN)))) => sortStableF cf hO gf cb g 0 cap (fins NN).toArray W ⟨fun _ => rfl, fun x v hv => by simp [encF] at hv; subst hv; rfl, holdsF_of_row hr, hr.1⟩ (by rw [List.size_toArray, fins_length]; omega) eg
    (fun m os dk _ x y => hC _ (hw.trans ((but_of_sortedF (d := dk) ⟨m, os, rfl⟩).below hg hw.size)) x y) (by rw [List.size_toArray, fins_length]; omega) (fins NN) W (by simp) (SWK.start (holdsF_of_row hr)))
  have HW := Lib.hid (fun (g : Nat) (W w' : World) (M : List (Fin (NN + 1))) (hr : CellRow W g (ints (valsF (fins NN)))) (hS : SWK encF 1 W g 0 M.toArray w') (hl : M.length = (fins NN).length) => row_of_sortedF (d0 := (fins NN).toArray) ⟨fun _ => rfl, fun x v hv => by simp [encF] at hv; subst hv; rfl, holdsF_of_row hr, hr.1⟩ hS (by simpa using hl))
  clear eg hC hr hil
  go_enter Try.func134, Try.ntmps134
  go_wp2_with fail
  refine (HCL.out).mono ?_
  rintro e w1 ⟨g, cap, rfl, hcp, hg, hrow, hb⟩
  rw [iota_length] at hcp ⊢
  rw [← valsF_fins] at hrow
  have HG := Lib.hid hg
  have HR := Lib.hid hrow
  have HB := Lib.hid hb
  have HQ := Lib.hid (HS.out g cap w1 hb hg hrow)
  rw [List.size_toArray, fins_length] at HQ
  clear hg hrow hb HCL HS
  go_wp2_with fail
  refine (HQ.out).mono ?_
  rintro e w2 ⟨rfl, M, hM, hS⟩
  have HRES : Hid (∃ (g' cg : Nat) (M : List (Fin (NN + 1))), Ending.returned (.slice (some ⟨g, 0, none⟩) (NN + 1) cap) = .returned (.slice (some ⟨g', 0, none⟩) (NN + 1) cg) ∧ NN + 1 ≤ cg ∧ w.heap.size ≤ g' ∧ CellRow w2 g' (ints (valsF M)) ∧ St (ltOf cf) (fins NN) M ∧ Below w.heap.size w w2) :=
    Lib.hid ⟨g, cap, M, rfl, hcp, HG.out, HW.out g w1 w2 M HR.out hS hM.len, hM, HB.out.trans ((but_of_sortedF hS).below HG.out HB.out.size)⟩
  clear hM hS HQ HW
  go_wp2_with fail
  go_ret
  exact HRES.out

end Go.Proofs.Ytagibgphegoagaa
end

section
/- The program's StableSort, by its contract. -/
namespace Go.Proofs.Ytagibgphegoagaa
open Go.RowKit Go.Sort Go.Lib StC

/-- A row of records, as a sort sees it. -/
theorem flat_recs (L : List (Int × Int)) : flatK encR 2 L.toArray = (recs L).toArray := by
  refine ext_get! (by simp [recs_length]) fun t ht => ?_
  have ht' : t < L.toArray.size * 2 := by simpa using ht
  rw [get_flatK _ _ _ _ ht']
  have hd : t / 2 < L.length := by simp at ht'; omega
  have hp : L[t / 2]? = some L[t / 2] := List.getElem?_eq_getElem hd
  obtain ⟨h1, h2⟩ := recs_at hp
  have e0 : L.toArray[t / 2]! = L[t / 2] := by simp [hd]
  have hlen : t < (recs L).length := by rw [recs_length]; simpa using ht'
  have e1 : (recs L).toArray[t]! = (recs L)[t] := by simp [hlen]
  rw [e0, e1]
  rcases Nat.mod_two_eq_zero_or_one t with e | e
  · have ht2 : t / 2 * 2 = t := by omega
    rw [ht2, List.getElem?_eq_getElem hlen] at h1
    rw [e, Option.some.inj h1]; rfl
  · have ht2 : t / 2 * 2 + 1 = t := by omega
    rw [ht2, List.getElem?_eq_getElem hlen] at h2
    rw [e, Option.some.inj h2]; rfl

theorem holds_of_row {w : World} {g : Nat} {L : List (Int × Int)} (h : CellRow w g (recs L)) : HoldsK encR 2 w g 0 L.toArray := by
  unfold HoldsK
  rw [flat_recs]
  intro j hj
  have hj' : j < (recs L).length := by simpa using hj
  have := h.2 j _ (List.getElem?_eq_getElem hj')
  rw [Nat.zero_add]
  have e : (recs L).toArray[j]! = (recs L)[j] := by simp [hj']
  show _ = some (id ((recs L).toArray[j]!)) ∧ _
  rw [e]; exact this

theorem row_of_sorted {w0 w : World} {g : Nat} {d0 : Array (Int × Int)} {M : List (Int × Int)} (R : RowK encR 2 w0 g 0 d0) (S : SWK encR 2 w0 g 0 M.toArray w) (hs : M.length = d0.size) : CellRow w g (recs M) := by
  have h := S.holds R.hblk R.hH (by simpa using hs)
  unfold HoldsK at h
  rw [flat_recs] at h
  refine ⟨S.lt R.hblk, fun j u hu => ?_⟩
  obtain ⟨hj, e⟩ := List.getElem?_eq_some_iff.1 hu
  have := h j (by simpa using hj)
  rw [Nat.zero_add] at this
  have e2 : (recs M).toArray[j]! = u := by simp [hj, e]
  have e3 : id ((recs M).toArray[j]!) = u := e2
  rw [e3] at this
  exact this

theorem but_of_sorted {w0 w : World} {g : Nat} {d : Array (Int × Int)} (S : SWK encR 2 w0 g 0 d w) : But g w0 w := by
  obtain ⟨n, os, rfl⟩ := S
  refine ⟨rfl, rfl, rfl, ?_, fun k hk hg => ?_⟩
  · unfold sortWorldK; rw [size_grow, size_putRowK]; exact Nat.le_add_right _ _
  · unfold sortWorldK
    rw [heap_grow_old _ _ (by rw [size_putRowK]; exact hk)]
    show (w0.heap.modify g _)[k]? = _
    rw [Array.getElem?_modify, if_neg (fun e => hg e.symm)]

/-- The program's comparison of records. -/
def cfK (x y : Int × Int) : Int := compareInt x.1 y.1
theorem ltK (x y : Int × Int) : ltOf cfK x y = decide (x.1 < y.1) := by
  unfold ltOf cfK compareInt
  by_cases h1 : x.1 < y.1
  · simp [h1]
  · by_cases h2 : y.1 < x.1 <;> simp [h1, h2]
theorem swoK : SWO (ltOf cfK) where
  irrefl x := by rw [ltK]; simp
  trans x y z h1 h2 := by rw [ltK] at *; simp at *; omega
  ntrans x y z h1 h2 := by rw [ltK] at *; simp at *; omega

/-- Stable under the comparison of keys is stable by the key. -/
theorem stab_of {l M : List (Int × Int)} (h : St (ltOf cfK) l M) : Stab.Of (·.1) l M := by
  refine ⟨h.sorted.imp fun hh => ?_, fun q => ?_⟩
  · rw [ltK] at hh; simp at hh; exact hh
  · have := h.same (q, 0)
    have e : tie (ltOf cfK) (q, 0) = fun a : Int × Int => a.1 == q := by
      funext a
      unfold tie
      rw [ltK, ltK]
      by_cases h1 : a.1 = q
      · simp [h1]
      · have : (a.1 == q) = false := by simpa using h1
        rw [this]
        by_cases h2 : q < a.1
        · simp [h2]
        · simp [h2]; omega
    rw [e] at this
    exact this

attribute [local go_sem ↓ high] builtin_append_held

set_option maxRecDepth 100000 in
theorem cloneRecs_any (b o c : Nat) (l : List (Int × Int)) (w : World) (hv : FlatAt w (.slice (some ⟨b, o, none⟩) l.length c) l.length (recs l)) (hn : l.length ≤ 1048576) :
    Calls Try.prog 137 #[.slice (some ⟨b, o, none⟩) l.length c] w fun e w' => ∃ g cap, e = .returned (.slice (some ⟨g, 0, none⟩) l.length cap) ∧ l.length ≤ cap ∧ w.heap.size ≤ g ∧ CellRow w' g (recs l) ∧ Below w.heap.size w w' := by
  obtain ⟨g, cap, w1, hrun, hcap, hg, hrow, hb1⟩ := appendRecs b o c l w hv hn
  have HROW := Lib.hid hrow
  have HB1 := Lib.hid hb1
  have HG := Lib.hid hg
  clear hv hrow hb1 hg
  have q22 : ∀ (w : World) (a : Option Addr) (n c n' c' : Nat), (binOp .eql 28 (.slice a n c) (.slice none n' c')).run Try.prog w = .ok (.bool a.isNone) w := fun w a n c n' c' => Lib.run_eql_slice_nil w _ _ a n c n' c' Try.underlying28
  go_enter Try.func137, Try.ntmps137
  go_wp2_with fail
  go_ret
  exact ⟨g, cap, rfl, hcap, HG.out, HROW.out, HB1.out⟩

set_option maxRecDepth 100000 in
theorem arrangeRecs_any (b o c : Nat) (l : List (Int × Int)) (w : World) (hv : FlatAt w (.slice (some ⟨b, o, none⟩) l.length c) l.length (recs l)) (hn : l.length ≤ 1048576) :
    Calls Try.prog 87 #[.slice (some ⟨b, o, none⟩) l.length c, .func (.func 88) #[] #[]] w (StableC l w) := by
  have eg : ∀ args w, (callFunc 88 args).run Try.prog w = .ok (.enter 88 args) w := enters_of Try.func88 (by kernel_rfl) rfl
  have HC := Lib.hid (cloneRecs_any b o c l w hv hn)
  have HS := Lib.hid (fun (g cap : Nat) (W : World) (hr : CellRow W g (recs l)) => sortStableR cfK swoK 88 #[] g 0 cap l.toArray W ⟨fun _ => rfl, fun x v hv => by simp [encR] at hv; rcases hv with rfl | rfl <;> rfl, holds_of_row hr, hr.1⟩ (by simp; omega) eg
    (fun m os dk _ x y => compareKeys_any x y _) (by simp; omega) l W (by simp) (SWK.start (holds_of_row hr)))
  have HW := Lib.hid (fun (g : Nat) (W w' : World) (M : List (Int × Int)) (hr : CellRow W g (recs l)) (hS : SWK encR 2 W g 0 M.toArray w') (hl : M.length = l.length) => row_of_sorted (d0 := l.toArray) ⟨fun _ => rfl, fun x v hv => by simp [encR] at hv; rcases hv with rfl | rfl <;> rfl, holds_of_row hr, hr.1⟩ hS (by simpa using hl))
  clear hv eg
  go_enter Try.func87, Try.ntmps87
  go_wp2_with fail
  refine (HC.out).mono ?_
  rintro e w1 ⟨g, cap, rfl, hcap, hg, hrow, hb⟩
  have HG := Lib.hid hg
  have HR := Lib.hid hrow
  have HB := Lib.hid hb
  have HQ := Lib.hid (HS.out g cap w1 hrow)
  simp only [List.size_toArray] at HQ
  clear hg hrow hb HC HS
  go_wp2_with fail
  refine (HQ.out).mono ?_
  rintro e w2 ⟨rfl, M, hM, hS⟩
  have HRES : Hid (StableC l w (.returned (.slice (some ⟨g, 0, none⟩) l.length cap)) w2) := Lib.hid ⟨g, cap, M, rfl, hcap, HG.out, HW.out g w1 w2 M HR.out hS hM.len, stab_of hM, HB.out.trans ((but_of_sorted hS).below HG.out HB.out.size)⟩
  clear hM hS HQ HW
  go_wp2_with fail
  go_ret
  exact HRES.out

theorem implSort_any (b o c : Nat) (l : List (Int × Int)) (w : World) (hv : FlatAt w (.slice (some ⟨b, o, none⟩) l.length c) l.length (recs l)) (hn : l.length ≤ 1048576) :
    Calls Try.prog 26 #[.slice (some ⟨b, o, none⟩) l.length c] w (SortC l w) := by
  have HV := Lib.hid hv
  clear hv
  by_cases hok : OkR l
  · have hd : decide (OkR l) = true := decide_eq_true hok
    have HOK := Lib.hid hok
    clear hok
    unfold SortC
    rw [hd]
    go_enter Try.func26, Try.ntmps26
    go_wp2_with fail
    refine (implValidRecs_any _ l w HV.out hn).mono ?_
    rw [hd]
    rintro e w1 ⟨rfl, hb1⟩
    have HV1 := Lib.hid (HV.out.below hb1)
    have HB1 := Lib.hid hb1
    clear hb1 HV hd
    go_wp2_with fail
    refine (arrangeRecs_any b o c l _ HV1.out hn).mono ?_
    rintro e w2 ⟨g, cap, L, rfl, hcap, hg, hrow, hof, hb2⟩
    have HRES : Hid (∃ g' cap' L', Ending.returned (.tuple #[.slice (some ⟨g, 0, none⟩) l.length cap, .bool true]) = .returned (.tuple #[.slice (some ⟨g', 0, none⟩) L'.length cap', .bool true]) ∧ L'.length ≤ cap' ∧ w.heap.size ≤ g' ∧ CellRow w2 g' (recs L') ∧ SortedOf l L' ∧ Below w.heap.size w w2) :=
      Lib.hid ⟨g, cap, L, by rw [Stab.Of.length hof], by rw [Stab.Of.length hof]; exact hcap, Nat.le_trans HB1.out.size hg, hrow, .inl ⟨HOK.out, hof⟩, HB1.out.trans (hb2.mono HB1.out.size)⟩
    clear hcap hg hrow hof hb2
    go_wp2_with fail
    go_ret2
    exact HRES.out
  · have hd : decide (OkR l) = false := decide_eq_false hok
    have HRES : Hid (∀ w1, Below w.heap.size w w1 → SortC l w (.returned (.tuple #[.slice (some ⟨w1.heap.size, 0, none⟩) 0 0, .bool false])) (w1.alloc (.cells #[] 39))) := Lib.hid (fun w1 hb =>
      ⟨w1.heap.size, 0, [], by rw [hd]; rfl, Nat.le_refl _, hb.size, ⟨by simp, fun j u hu => by simp [recs] at hu⟩, .inr ⟨hok, rfl⟩, hb.alloc hb.size _⟩)
    clear hok
    go_enter Try.func26, Try.ntmps26
    go_wp2_with fail
    refine (implValidRecs_any _ l w HV.out hn).mono ?_
    rw [hd]
    rintro e w1 ⟨rfl, hb1⟩
    have HR := Lib.hid (HRES.out w1 hb1)
    clear hb1 HV HRES hd
    go_wp2_with fail
    go_ret2
    exact HR.out

end Go.Proofs.Ytagibgphegoagaa
end

section
/- The draws of record lists (records, anyRecords), by their contracts. -/
namespace Go.Proofs.Ytagibgphegoagaa
open Go.RowKit

attribute [local go_sem ↓ high] builtin_append_held

theorem infoRecD : (Try.prog.info? 39).map (fun i => (i.zero, i.size, i.bytes)) = some (some (.agg #[.int .i64 0, .int .i64 0]), 2, 16) := by kernel_rfl

theorem cell_two_new (w : World) (x y : Value) (t : TypeId) : ∀ j u, [x, y][j]? = some u → (w.alloc (.cells #[x, y] t)).cell? ((⟨w.heap.size, 0, none⟩ : Addr).add j) = some u := by
  intro j u hu
  have hrow : RowIs (w.alloc (.cells #[x, y] t)) w.heap.size t [x, y] := heap_alloc_new w _
  have e : (⟨w.heap.size, 0, none⟩ : Addr).add j = ⟨w.heap.size, j, none⟩ := by
    unfold Addr.add; simp; omega
  rw [e, hrow.cell j]
  exact hu

/-- 'append(l, r)' of one record to a row of its own: only that row moves. -/
theorem appendRec (base : Nat) (v : Value) (L : List (Int × Int)) (x y : Int) (w : World) (h : w.ownsRow base 39 2 v L.length (recs L)) (hb : base ≤ w.heap.size) (hn : L.length ≤ 1048576) :
    ∃ v' w', (heldAppend #[28, 28] 28 #[v, .slice (some ⟨w.heap.size, 0, none⟩) 1 1]).run Try.prog (w.alloc (.cells #[.int .i64 x, .int .i64 y] 39)) = .ok v' w' ∧
      w'.ownsRow base 39 2 v' (L ++ [(x, y)]).length (recs (L ++ [(x, y)])) ∧ Below base w w' ∧
      (∀ k, k < w.heap.size → v.ownBlock ≠ some k → w'.heap[k]? = w.heap[k]?) ∧ (∀ q, v'.ownBlock = some q → v.ownBlock = some q ∨ w.heap.size ≤ q) ∧ v' ≠ .slice none 0 0 := by
  obtain ⟨i0, hi, hz0, hz1, hz2⟩ := info_parts infoRecD
  obtain ⟨v', w', hrun, hown, hgrow, hnil, hob⟩ := run_append_own_at (P := Try.prog) (w := w.alloc (.cells #[.int .i64 x, .int .i64 y] 39)) base 28 28 39 i0 (.agg #[.int .i64 0, .int .i64 0]) 2 16 Try.underlying28 hi hz0 hz1 hz2 rfl (by decide)
    _ L.length (recs L) (World.ownsRow.alloc h _) ⟨w.heap.size, 0, none⟩ 1 1 [.int .i64 x, .int .i64 y] rfl (cell_two_new w _ _ _) (by simp [Value.oneCell']) (by unfold maxLen; omega) (by omega) (by simp; omega)
  refine ⟨v', w', hrun, ?_, ((Below.refl base w).alloc hb _).grown hgrow (by simp; omega) (fun j e => (h.lt j e).1), fun k hk hne => ?_, fun q hq => ?_, fun e => by have := (hnil.1 e).2; omega⟩
  · rw [recs_append, List.length_append]
    exact hown
  · rw [hgrow.block k (by simp; omega) (Ne.symm hne)]
    exact heap_alloc_old w _ hk
  · rcases hob with e | e
    · exact .inl (by rw [← e]; exact hq)
    · rw [hq] at e
      have := Option.some.inj e
      simp at this
      exact .inr (by omega)

/-- A short valid record list: its keys in their range, its tags from 0 on. -/
def RecsC (B g : Nat) (a : Option Addr) (len cap : Nat) (m : Nat) (w : World) (e : Ending) (w' : World) : Prop :=
  ∃ (v : Value) (l : List (Int × Int)), l.length ≤ 24 ∧ (∀ p ∈ l, (-100000 ≤ p.1 ∧ p.1 ≤ 100000) ∧ (0 ≤ p.2 ∧ p.2 ≤ 999)) ∧ e = .returned v ∧ w'.ownsRow w.heap.size 39 2 v l.length (recs l) ∧ Cur B g a len cap (m + 200) w' ∧ But g w w' ∧ v ≠ .slice none 0 0

set_option maxRecDepth 100000 in
set_option maxHeartbeats 4000000 in
theorem records_any (B g : Nat) (a : Option Addr) (len cap : Nat) (m : Nat) (w : World) (h : Cur B g a len cap m w) (hm : m ≤ 900000) :
    Calls Try.prog 127 #[.pointer (some ⟨g, 0, none⟩)] w (RecsC B g a len cap m w) := by
  have H := Lib.hid h
  have hgl := h.lt
  clear h
  go_enter Try.func127, Try.ntmps127
  go_wp2_with fail
  refine (ints_any B g a len cap m _ (H.out.alloc _) (by omega)).mono ?_
  rintro e w1 ⟨kv, keys, hl, hall, rfl, hown, hc, hb⟩
  have HALL := Lib.hid hall
  have HK := Lib.hid (own_flat hown)
  have HC1 := Lib.hid hc
  have HB1 := Lib.hid ((But.alloc g w (.cells #[] 39)).trans hb)
  have HO1 : Hid (w1.ownsRow w.heap.size 39 2 (.slice (some ⟨w.heap.size, 0, none⟩) 0 0) ([] : List (Int × Int)).length (recs [])) := Lib.hid (own_but (World.ownsRow_made w #[] 0 (Nat.le_refl _) (by decide) rfl) hb hgl)
  have hkv : ∃ a' c', kv = .slice a' keys.length c' := by
    obtain ⟨a', c', e, _⟩ := own_flat hown
    exact ⟨a', c', e⟩
  obtain ⟨a', c', rfl⟩ := hkv
  have hkb : ∀ q, Value.ownBlock (.slice a' keys.length c') = some q → q ≠ w.heap.size := fun q hq => by
    have := (hown.lt q hq).1
    simp at this
    omega
  have HKB : Hid (∀ q, Value.ownBlock (.slice (some ⟨w.heap.size, 0, none⟩) 0 0) = some q → Value.ownBlock (.slice a' keys.length c') ≠ some q) := Lib.hid (fun q hq hq2 => by
    have e : some w.heap.size = some q := hq
    exact hkb q hq2 (Option.some.inj e).symm)
  clear hown hc hb H hall hkb
  go_wp2_with fail
  go_loopw [3, 5] (fun v i wr => ∃ (k : Nat) (L : List (Int × Int)), k ≤ keys.length ∧ i = .int .i64 k ∧ L.length = k ∧ (∀ p ∈ L, (-100000 ≤ p.1 ∧ p.1 ≤ 100000) ∧ (0 ≤ p.2 ∧ p.2 ≤ 999)) ∧ wr.ownsRow w.heap.size 39 2 v L.length (recs L) ∧ Cur B g a len cap (m + 200) wr ∧ But g w wr ∧
    FlatAt wr (.slice a' keys.length c') keys.length (ints keys) ∧ (∀ q, v.ownBlock = some q → Value.ownBlock (.slice a' keys.length c') ≠ some q) ∧ v ≠ .slice none 0 0) (fun _ i _ => keys.length - (intOf i).toNat)
  case atStart => exact ⟨0, [], Nat.zero_le _, rfl, rfl, by simp, HO1.out, HC1.out, HB1.out, HK.out, HKB.out, by simp⟩
  case round =>
    obtain ⟨k, L, hk, rfl, hL, hall, hrow, hcur, hb, hka, hkb, hnn⟩ := hrel
    have HALL2 := Lib.hid hall
    have HROW := Lib.hid hrow
    have HCUR := Lib.hid hcur
    have HB := Lib.hid hb
    have HKA := Lib.hid hka
    have HKB2 := Lib.hid hkb
    have HNN := Lib.hid hnn
    clear hall hrow hcur hb hkb hnn HO1 HC1 HB1 HK HKB
    by_cases hlt : k < keys.length
    · obtain ⟨x, hx⟩ : ∃ x, keys[k]? = some x := ⟨_, List.getElem?_eq_getElem hlt⟩
      have hxb := HALL.out x (List.mem_of_getElem? hx)
      obtain ⟨a2, c2, he, hc2, hf⟩ := hka
      simp at he
      obtain ⟨rfl, rfl⟩ := he
      obtain ⟨b, o, rfl, hbb, hc1⟩ := hf k _ (ints_at hx)
      obtain ⟨v', w6, hrun, hown, hbel, hfr, hob, hn6⟩ := appendRec w.heap.size _ L x k wr HROW.out HB.out.size (by omega)
      have HO6 := Lib.hid hown
      have HC6 := Lib.hid (HCUR.out.keep (hbel.mono (show g + 1 ≤ w.heap.size by omega)))
      have HB6 := Lib.hid (HB.out.then_below hbel)
      have HA6 : Hid (∀ p ∈ L ++ [(x, (k : Int))], (-100000 ≤ p.1 ∧ p.1 ≤ 100000) ∧ (0 ≤ p.2 ∧ p.2 ≤ 999)) := Lib.hid (fun y hy => by
        rcases List.mem_append.1 hy with h | h
        · exact HALL2.out y h
        · rw [List.mem_singleton.1 h]; exact ⟨hxb, by simp; omega⟩)
      have HK6 : Hid (FlatAt w6 (.slice (some ⟨b, o, none⟩) keys.length c') keys.length (ints keys)) := Lib.hid ⟨_, c', rfl, hc2, fun j u hu => by
        obtain ⟨b2, o2, e, hb2, hcc⟩ := hf j u hu
        obtain rfl : b = b2 := congrArg Addr.block (Option.some.inj e)
        obtain rfl : o = o2 := congrArg Addr.off (Option.some.inj e)
        refine ⟨b, o, rfl, Nat.lt_of_lt_of_le hb2 hbel.size, ?_⟩
        rw [World.cell?_of_block (w := wr) (hfr b hb2 (fun e => HKB2.out b e rfl))]
        exact hcc⟩
      have HKB6 : Hid (∀ q, v'.ownBlock = some q → Value.ownBlock (.slice (some ⟨b, o, none⟩) keys.length c') ≠ some q) := Lib.hid (fun q hq hq2 => by
        rcases hob q hq with h | h
        · exact HKB2.out q h hq2
        · have e : some b = some q := hq2
          have := Option.some.inj e
          omega)
      have HN6 := Lib.hid hn6
      clear hown hbel hfr hob hn6 hf hx hxb HROW HCUR HB HALL2 HKA HKB2
      go_wp2_with fail
      go_roundw
      case rel => exact ⟨k + 1, L ++ [(x, (k : Int))], by omega, by go_num, by simp [hL], HA6.out, HO6.out, HC6.out, HB6.out, HK6.out, HKB6.out, HN6.out⟩
      case measure => simp [intOf]; omega
    · have HQ : Hid (∀ v, v ≠ .slice none 0 0 → wr.ownsRow w.heap.size 39 2 v L.length (recs L) → RecsC B g a len cap m w (.returned v) wr) := Lib.hid (fun v hnv hv => ⟨v, L, by omega, HALL2.out, rfl, hv, HCUR.out, HB.out, hnv⟩)
      go_wp2_with fail
      go_ret
      exact HQ.out _ HNN.out HROW.out

end Go.Proofs.Ytagibgphegoagaa
end

section
/- The program's CountingSort, by its contract. -/
namespace Go.Proofs.Ytagibgphegoagaa
open Go.RowKit Rx P
set_option linter.unusedVariables false

theorem isRange_any (a z : Int) (W : World) :
    Calls Try.prog 76 #[.int .i64 a, .int .i64 z] W fun e w' => e = .returned (.bool (decide ((-100000 ≤ a ∧ a ≤ 100000) ∧ a ≤ z ∧ z ≤ a + 1000))) ∧ w' = W := by
  have HO := Lib.hid (fun W => isOutside_any a W)
  by_cases hk : -100000 ≤ a ∧ a ≤ 100000
  · have hko : outK a = false := by unfold outK; simp; omega
    rw [hko] at HO
    have ew : IntKind.i64.wrap (a + 1000) = a + 1000 := by rw [IntKind.wrap_i64]; omega
    by_cases h1 : a ≤ z
    · have hd : decide ((-100000 ≤ a ∧ a ≤ 100000) ∧ a ≤ z ∧ z ≤ a + 1000) = decide (z ≤ a + 1000) := by rw [decide_eq_decide]; omega
      rw [hd]
      clear hk hko hd
      go_enter Try.func76, Try.ntmps76
      go_wp2_with fail
      refine (HO.out _).mono ?_
      rintro e w1 ⟨rfl, rfl⟩
      go_wp2_with fail
      go_ret
      exact ⟨rfl, rfl⟩
    · have hd : decide ((-100000 ≤ a ∧ a ≤ 100000) ∧ a ≤ z ∧ z ≤ a + 1000) = false := decide_eq_false (by omega)
      rw [hd]
      clear hk hko hd
      go_enter Try.func76, Try.ntmps76
      go_wp2_with fail
      refine (HO.out _).mono ?_
      rintro e w1 ⟨rfl, rfl⟩
      go_wp2_with fail
      go_ret
      exact ⟨rfl, rfl⟩
  · have hko : outK a = true := by unfold outK; simp; omega
    rw [hko] at HO
    have hd : decide ((-100000 ≤ a ∧ a ≤ 100000) ∧ a ≤ z ∧ z ≤ a + 1000) = false := decide_eq_false fun h => hk h.1
    rw [hd]
    clear hk hko hd
    go_enter Try.func76, Try.ntmps76
    go_wp2_with fail
    refine (HO.out _).mono ?_
    rintro e w1 ⟨rfl, rfl⟩
    go_wp2_with fail
    go_ret
    exact ⟨rfl, rfl⟩

/-- Out of the range. -/
def outC (a z : Int) (p : Int × Int) : Bool := decide (p.1 < a) || decide (z < p.1)

set_option maxRecDepth 100000 in
theorem outC_any (a z : Int) (g1 g2 : Nat) (p : Int × Int) (W : World) (c1 : W.cell? ⟨g1, 0, none⟩ = some (.int .i64 a)) (c2 : W.cell? ⟨g2, 0, none⟩ = some (.int .i64 z)) :
    Calls Try.prog 78 #[.agg #[.int .i64 p.1, .int .i64 p.2], .pointer (some ⟨g1, 0, none⟩), .pointer (some ⟨g2, 0, none⟩)] W fun e w' => e = .returned (.bool (outC a z p)) ∧ Below W.heap.size W w' := by
  obtain ⟨k, t⟩ := p
  have HB : Hid (Below W.heap.size W (W.alloc (.cells #[.int .i64 k, .int .i64 t] 39))) := Lib.hid ((Below.refl _ W).alloc (Nat.le_refl _) _)
  have hlt1 : g1 < W.heap.size := World.block_lt_of_cell? W _ c1
  have hlt2 : g2 < W.heap.size := World.block_lt_of_cell? W _ c2
  by_cases h1 : k < a
  · have hd : Hid (outC a z (k, t) = true) := Lib.hid (by unfold outC; simp [h1])
    have h1d : decide (k < a) = true := decide_eq_true h1
    rw [hd.out]
    go_enter Try.func78, Try.ntmps78
    go_wp2_with fail
    go_ret
    exact ⟨rfl, HB.out⟩
  · have hd : Hid (outC a z (k, t) = decide (z < k)) := Lib.hid (by unfold outC; simp [h1])
    have h1d : decide (k < a) = false := decide_eq_false h1
    rw [hd.out]
    go_enter Try.func78, Try.ntmps78
    go_wp2_with fail
    go_ret
    exact ⟨rfl, HB.out⟩

theorem shift_any (a x : Int) (g1 : Nat) (W : World) (n : Nat) (c1 : W.cell? ⟨g1, 0, none⟩ = some (.int .i64 a)) (hn : x - a = (n : Int)) (h : n ≤ 1000) :
    Calls Try.prog 80 #[.int .i64 x, .pointer (some ⟨g1, 0, none⟩)] W fun e w' => e = .returned (.int .i64 (n : Int)) ∧ Below W.heap.size W w' := by
  have ew : IntKind.i64.wrap (x - a) = (n : Int) := by rw [IntKind.wrap_i64]; omega
  clear hn
  go_enter Try.func80, Try.ntmps80
  go_wp2_with fail
  go_ret
  exact ⟨by first | rfl | rw [ew] | (rw [← ew]; rfl), Below.refl _ _⟩

theorem enters_c1 : ∀ args w, (callFunc 78 args).run Try.prog w = .ok (.enter 78 args) w := enters_of Try.func78 (by kernel_rfl) rfl
theorem enters_c2 : ∀ args w, (callFunc 80 args).run Try.prog w = .ok (.enter 80 args) w := enters_of Try.func80 (by kernel_rfl) rfl

theorem stb_bk {l : List (Int × Int)} {a z : Int} (h : OkC l a z) : bk (fun p : Int × Int => (p.1 - a).toNat) l 1001 = stb l := by
  refine stb_eq ?_
  have hr : ∀ x ∈ l, (x.1 - a).toNat < 1001 := fun x hx => by have h1 := h.2.2 x hx; have h2 := h.2.1.2; omega
  have h1 := bk_of (f := fun p : Int × Int => (p.1 - a).toNat) hr
  generalize bk (fun p : Int × Int => (p.1 - a).toNat) l 1001 = M at *
  obtain ⟨hs, hq⟩ := h1
  have hm : ∀ x ∈ M, x ∈ l := fun x hx => (Stab.Of.mem ⟨hs, hq⟩ x).1 hx
  refine ⟨?_, fun q => ?_⟩
  · refine List.Pairwise.imp_of_mem ?_ hs
    intro x y hx hy hxy
    have h1 := h.2.2 x (hm x hx)
    have h2 := h.2.2 y (hm y hy)
    have hxy2 : (((x.1 - a).toNat : Nat) : Int) ≤ (((y.1 - a).toNat : Nat) : Int) := hxy
    omega
  · have e : ∀ m : List (Int × Int), (∀ x ∈ m, x ∈ l) → m.filter (fun p => p.1 == q) = m.filter (fun p => (((p.1 - a).toNat : Nat) : Int) == q - a) := fun m hml => by
      refine List.filter_congr fun x hx => ?_
      have h1 := h.2.2 x (hml x hx)
      by_cases hxq : x.1 = q
      · have e1 : (((x.1 - a).toNat : Nat) : Int) = q - a := by omega
        rw [e1, hxq]; simp only [BEq.rfl]
      · have e1 : ¬ (((x.1 - a).toNat : Nat) : Int) = q - a := by omega
        have e2 : ((((x.1 - a).toNat : Nat) : Int) == q - a) = false := by simp only [beq_eq_false_iff_ne, ne_eq]; exact e1
        have e3 : (x.1 == q) = false := by simpa using hxq
        rw [e2, e3]
    rw [e _ hm, e l fun x hx => hx]
    exact hq _

set_option maxRecDepth 100000 in
set_option maxHeartbeats 8000000 in
theorem implCs_any (b' o c : Nat) (l : List (Int × Int)) (a z : Int) (w : World) (hv : FlatAt w (.slice (some ⟨b', o, none⟩) l.length c) l.length (recs l)) (hn : l.length ≤ 1048576) :
    Calls Try.prog 22 #[.slice (some ⟨b', o, none⟩) l.length c, .int .i64 a, .int .i64 z] w (RetCE (csAll l a z) w) := by
  obtain ⟨W0, hW0⟩ : ∃ W0, W0 = (w.alloc (.cells #[.int .i64 a] 3)).alloc (.cells #[.int .i64 z] 3) := ⟨_, rfl⟩
  obtain ⟨hbox, hcells⟩ := digit_boxes a z w
  rw [← hW0] at hbox hcells
  have HB0 := Lib.hid hbox
  have HCELL := Lib.hid hcells
  obtain ⟨k1, k2⟩ := hcells W0 (Below.refl _ _)
  have HV := Lib.hid (implValidRecs_any _ l W0 (hv.below hbox) hn)
  have HRG := Lib.hid (fun W => isRange_any a z W)
  have HNONE : Hid (¬ OkC l a z → ∀ w1, Below w.heap.size w w1 → RetCE (csAll l a z) w (.returned (.tuple #[.slice none 0 0, .bool false])) w1) := Lib.hid (fun h w1 hb => by rw [csAll_no h]; exact RetCE.none0 w w1 hb)
  by_cases hok : OkR l
  · rw [decide_eq_true hok] at HV
    by_cases hrg : (-100000 ≤ a ∧ a ≤ 100000) ∧ a ≤ z ∧ z ≤ a + 1000
    · rw [decide_eq_true hrg] at HRG
      have HCF := Lib.hid (fun W (hW : Below W0.heap.size W0 W) => containsFR (outC a z) 78 #[.pointer (some ⟨w.heap.size, 0, none⟩), .pointer (some ⟨w.heap.size + 1, 0, none⟩)] enters_c1 (.slice (some ⟨b', o, none⟩) l.length c) l W ((hv.below hbox).below hW) (by omega)
        (fun W2 x hx hW2 => outC_any a z w.heap.size (w.heap.size + 1) x W2 (HCELL.out W2 (hW.trans (hW2.mono hW.size))).1 (HCELL.out W2 (hW.trans (hW2.mono hW.size))).2))
      by_cases hall : ∀ p ∈ l, a ≤ p.1 ∧ p.1 ≤ z
      · have hokc : OkC l a z := ⟨hok, hrg, hall⟩
        have hany : l.any (outC a z) = false := List.any_eq_false.2 fun x hx => by have := hall x hx; unfold outC; simp; omega
        rw [hany] at HCF
        have HDI := Lib.hid (fun W (hW : Below W0.heap.size W0 W) => distributed_any (fun k => (k - a).toNat) 80 #[.pointer (some ⟨w.heap.size, 0, none⟩)] enters_c2 (.slice (some ⟨b', o, none⟩) l.length c) l W ((hv.below hbox).below hW) hn (fun p hp => by have := hall p hp; omega)
          (fun W2 x hx hW2 => by
            obtain ⟨q, hq, rfl⟩ := List.mem_map.1 hx
            have := hall q hq
            exact shift_any a q.1 w.heap.size W2 (q.1 - a).toNat (HCELL.out W2 (hW.trans (hW2.mono hW.size))).1 (by omega) (by omega)))
        simp only [stb_bk hokc] at HDI
        rw [csAll_yes hokc]
        have HSL := Lib.hid (stb_len l)
        generalize stb l = M at *
        clear hok hrg hall hokc hany hv hbox hcells HNONE
        go_enter Try.func22, Try.ntmps22
        go_wp2_with fail
        rw [← hW0]
        clear hW0
        refine HV.out.mono ?_
        rintro e w1 ⟨rfl, hb1⟩
        have HB1 := Lib.hid hb1
        obtain ⟨d1, d2⟩ := HCELL.out w1 hb1
        clear hb1 HV k1 k2
        go_wp2_with fail
        refine (HRG.out _).mono ?_
        rintro e w1' ⟨rfl, rfl⟩
        clear HRG
        go_wp2_with fail
        refine (HCF.out _ HB1.out).mono ?_
        rintro e w2 ⟨rfl, hb2⟩
        have HB2 := Lib.hid (HB1.out.trans (hb2.mono HB1.out.size))
        clear hb2 HCF HB1 d1 d2
        go_wp2_with fail
        refine (HDI.out _ HB2.out).mono ?_
        rintro e w3 ⟨g, cg, rfl, hcg, hg, hrow, hb3⟩
        have HRES : Hid (RetCE (M, true) w (.returned (.tuple #[.slice (some ⟨g, 0, none⟩) M.length cg, .bool true])) w3) := Lib.hid (by
          have h1 := HB0.out.trans (HB2.out.mono HB0.out.size)
          exact .inl ⟨g, cg, rfl, hcg, Nat.le_trans h1.size hg, hrow, h1.trans (hb3.mono h1.size)⟩)
        clear hcg hg hrow hb3 HDI HB2 HB0
        go_wp2_with fail
        go_ret2
        exact HRES.out
      · have hany : l.any (outC a z) = true := by
          rw [List.any_eq_true]
          by_cases hex : ∃ x ∈ l, outC a z x = true
          · exact hex
          · exact absurd (fun p hp => by
              have h1 : outC a z p ≠ true := fun h => hex ⟨p, hp, h⟩
              unfold outC at h1
              simp at h1
              omega) hall
        rw [hany] at HCF
        have HN := Lib.hid (HNONE.out fun h => hall h.2.2)
        clear hok hrg hall hany hv hbox hcells HNONE
        go_enter Try.func22, Try.ntmps22
        go_wp2_with fail
        rw [← hW0]
        clear hW0
        refine HV.out.mono ?_
        rintro e w1 ⟨rfl, hb1⟩
        have HB1 := Lib.hid hb1
        obtain ⟨d1, d2⟩ := HCELL.out w1 hb1
        clear hb1 HV k1 k2
        go_wp2_with fail
        refine (HRG.out _).mono ?_
        rintro e w1' ⟨rfl, rfl⟩
        clear HRG
        go_wp2_with fail
        refine (HCF.out _ HB1.out).mono ?_
        rintro e w2 ⟨rfl, hb2⟩
        have HRES := Lib.hid (HN.out w2 (HB0.out.trans ((HB1.out.trans (hb2.mono HB1.out.size)).mono HB0.out.size)))
        clear hb2 HCF HB1 d1 d2 HN HB0
        go_wp2_with fail
        go_ret2
        exact HRES.out
    · rw [decide_eq_false hrg] at HRG
      have HN := Lib.hid (HNONE.out fun h => hrg h.2.1)
      clear hok hrg hv hbox hcells HNONE
      go_enter Try.func22, Try.ntmps22
      go_wp2_with fail
      rw [← hW0]
      clear hW0
      refine HV.out.mono ?_
      rintro e w1 ⟨rfl, hb1⟩
      have HRES := Lib.hid (HN.out w1 (HB0.out.trans (hb1.mono HB0.out.size)))
      obtain ⟨d1, d2⟩ := HCELL.out w1 hb1
      clear hb1 HV k1 k2 HN HB0
      go_wp2_with fail
      refine (HRG.out _).mono ?_
      rintro e w1' ⟨rfl, rfl⟩
      go_wp2_with fail
      go_ret2
      exact HRES.out
  · rw [decide_eq_false hok] at HV
    have HN := Lib.hid (HNONE.out fun h => hok h.1)
    clear hok hv hbox hcells HNONE
    go_enter Try.func22, Try.ntmps22
    go_wp2_with fail
    rw [← hW0]
    clear hW0
    refine HV.out.mono ?_
    rintro e w1 ⟨rfl, hb1⟩
    have HRES := Lib.hid (HN.out w1 (HB0.out.trans (hb1.mono HB0.out.size)))
    clear hb1 HV k1 k2 HN HB0
    go_wp2_with fail
    go_ret2
    exact HRES.out

end Go.Proofs.Ytagibgphegoagaa
end

section
/- The model's CountingSort, by its contract. -/
namespace Go.Proofs.Ytagibgphegoagaa
open Go.RowKit Rx P
set_option linter.unusedVariables false

set_option maxRecDepth 100000 in
set_option maxHeartbeats 4000000 in
theorem specCs_any (b' o c : Nat) (l : List (Int × Int)) (a z : Int) (w : World) (hv : FlatAt w (.slice (some ⟨b', o, none⟩) l.length c) l.length (recs l)) (hn : l.length ≤ 1048576) :
    Calls Try.prog 23 #[.slice (some ⟨b', o, none⟩) l.length c, .int .i64 a, .int .i64 z] w (RetCE (csAll l a z) w) := by
  have HV := Lib.hid (l2Records_any _ l w hv hn)
  have HA := Lib.hid (fun W => l1In_any a (-100000) 100000 W)
  have HNONE : Hid (¬ OkC l a z → ∀ w1, Below w.heap.size w w1 → RetCE (csAll l a z) w (.returned (.tuple #[.slice none 0 0, .bool false])) w1) := Lib.hid (fun h w1 hb => by rw [csAll_no h]; exact RetCE.nil0 w w1 hb)
  by_cases hok : OkR l
  · rw [decide_eq_true hok] at HV
    by_cases ha : -100000 ≤ a ∧ a ≤ 100000
    · rw [decide_eq_true ha] at HA
      have HZ := Lib.hid (fun W => l1In_any z a (a + 1000) W)
      have ew : IntKind.i64.wrap (a + 1000) = a + 1000 := by rw [IntKind.wrap_i64]; omega
      by_cases hz : a ≤ z ∧ z ≤ a + 1000
      · rw [decide_eq_true hz] at HZ
        have HREAD : Hid (∀ (k : Nat) q, l[k]? = some q → b' < w.heap.size ∧ w.cell? ⟨b', o + k * 2, none⟩ = some (.int .i64 q.1)) := Lib.hid (fun k q hq => by
          obtain ⟨a0, c0, e0, _, h⟩ := hv
          simp at e0
          obtain ⟨rfl, rfl⟩ := e0
          obtain ⟨b2, o2, e2, h1, h2, h3⟩ := recs_el h hq
          obtain rfl : b' = b2 := congrArg Addr.block (Option.some.inj e2)
          obtain rfl : o = o2 := congrArg Addr.off (Option.some.inj e2)
          exact ⟨h1, h2⟩)
        have HST := Lib.hid (fun W (hW : Below w.heap.size w W) => l2Stable_any b' o c l W (hv.below hW) hn)
        have HYES : Hid ((∀ q ∈ l, a ≤ q.1 ∧ q.1 ≤ z) → csAll l a z = (stb l, true)) := Lib.hid (fun h => csAll_yes ⟨hok, ⟨ha, hz⟩, h⟩)
        have h64 := hok.1
        clear hok hv ha hz
        go_enter Try.func23, Try.ntmps23
        go_wp2_with fail
        refine HV.out.mono ?_
        rintro e w1 ⟨rfl, hb1⟩
        have HB1 := Lib.hid hb1
        clear hb1 HV
        go_wp2_with fail
        refine (HA.out _).mono ?_
        rintro e w1' ⟨rfl, rfl⟩
        clear HA
        go_wp2_with fail
        refine (HZ.out _).mono ?_
        rintro e w1 ⟨rfl, rfl⟩
        clear HZ
        go_wp2_with fail
        go_loopw [8] (fun iv wr => ∃ k : Nat, k ≤ l.length ∧ iv = .int .i64 (k : Int) ∧ (∀ q ∈ l.take k, a ≤ q.1 ∧ q.1 ≤ z) ∧ Below w.heap.size w wr) (fun iv _ => l.length - (intOf iv).toNat)
        case atStart => exact ⟨0, Nat.zero_le _, rfl, by simp, HB1.out⟩
        case round =>
          obtain ⟨k, hk, rfl, hall, hb⟩ := hrel
          have HB := Lib.hid hb
          have HALL := Lib.hid hall
          clear hb hall HB1
          by_cases hlt : k < l.length
          · have hltz : (k : Int) < (l.length : Int) := by omega
            obtain ⟨q, hq⟩ : ∃ q, l[k]? = some q := ⟨_, List.getElem?_eq_getElem hlt⟩
            obtain ⟨hbb, hc0⟩ := HREAD.out k q hq
            have hw0 : wr.cell? ⟨b', o + k * 2, none⟩ = some (.int .i64 q.1) := (HB.out.cell (p := ⟨b', o + k * 2, none⟩) hbb).trans hc0
            have HQ := Lib.hid (fun W => l1In_any q.1 a z W)
            have HP := Lib.hid hq
            clear hc0 hq
            by_cases hqr : a ≤ q.1 ∧ q.1 ≤ z
            · rw [decide_eq_true hqr] at HQ
              have HQR := Lib.hid hqr
              clear hqr
              go_wp2_with fail
              refine (HQ.out _).mono ?_
              rintro e w2 ⟨rfl, rfl⟩
              go_wp2_with fail
              go_roundw
              case rel =>
                refine ⟨k + 1, by omega, by go_num, fun r hr => ?_, HB.out⟩
                rw [List.take_add_one, HP.out] at hr
                rcases List.mem_append.1 hr with h | h
                · exact HALL.out r h
                · simp at h; subst h; exact HQR.out
              case measure => simp [intOf]; omega
            · rw [decide_eq_false hqr] at HQ
              have HRES := Lib.hid (HNONE.out (fun h => hqr (h.2.2 q (List.mem_of_getElem? HP.out))) wr HB.out)
              clear hqr HNONE HYES HST HALL
              go_wp2_with fail
              refine (HQ.out _).mono ?_
              rintro e w2 ⟨rfl, rfl⟩
              go_wp2_with fail
              go_ret2
              exact HRES.out
          · have hltz : ¬ (k : Int) < (l.length : Int) := by omega
            obtain rfl : k = l.length := by omega
            rw [List.take_length] at HALL
            have HY := Lib.hid (HYES.out HALL.out)
            have HSL := Lib.hid (stb_len l)
            have HEQ : Hid (∀ L, Stab.Of (·.1) l L → L = stb l) := Lib.hid (fun L h => stb_eq h)
            clear HNONE HYES HALL HREAD
            go_wp2_with fail
            refine (HST.out _ HB.out).mono ?_
            rintro e w2 ⟨g, cap, L, rfl, hcap, hg, hrow, hof, hb2⟩
            have HRES : Hid (RetCE (csAll l a z) w (.returned (.tuple #[.slice (some ⟨g, 0, none⟩) l.length cap, .bool true])) w2) := Lib.hid (by
              rw [HY.out]
              rw [HEQ.out L hof] at hrow
              exact .inl ⟨g, cap, by rw [HSL.out], by rw [HSL.out]; exact hcap, Nat.le_trans HB.out.size hg, hrow, HB.out.trans (hb2.mono HB.out.size)⟩)
            clear hcap hg hrow hof hb2 HST HEQ HB HY HSL
            go_wp2_with fail
            go_ret2
            exact HRES.out
      · rw [decide_eq_false hz] at HZ
        have HN := Lib.hid (HNONE.out fun h => hz h.2.1.2)
        clear hok hv ha hz HNONE
        go_enter Try.func23, Try.ntmps23
        go_wp2_with fail
        refine HV.out.mono ?_
        rintro e w1 ⟨rfl, hb1⟩
        have HRES := Lib.hid (HN.out w1 hb1)
        clear hb1 HV HN
        go_wp2_with fail
        refine (HA.out _).mono ?_
        rintro e w1' ⟨rfl, rfl⟩
        clear HA
        go_wp2_with fail
        refine (HZ.out _).mono ?_
        rintro e w1 ⟨rfl, rfl⟩
        go_wp2_with fail
        go_ret2
        exact HRES.out
    · rw [decide_eq_false ha] at HA
      have HN := Lib.hid (HNONE.out fun h => ha h.2.1.1)
      clear hok hv ha HNONE
      go_enter Try.func23, Try.ntmps23
      go_wp2_with fail
      refine HV.out.mono ?_
      rintro e w1 ⟨rfl, hb1⟩
      have HRES := Lib.hid (HN.out w1 hb1)
      clear hb1 HV HN
      go_wp2_with fail
      refine (HA.out _).mono ?_
      rintro e w1' ⟨rfl, rfl⟩
      go_wp2_with fail
      go_ret2
      exact HRES.out
  · rw [decide_eq_false hok] at HV
    have HN := Lib.hid (HNONE.out fun h => hok h.1)
    clear hok hv HNONE
    go_enter Try.func23, Try.ntmps23
    go_wp2_with fail
    refine HV.out.mono ?_
    rintro e w1 ⟨rfl, hb1⟩
    have HRES := Lib.hid (HN.out w1 hb1)
    clear hb1 HV HN
    go_wp2_with fail
    go_ret2
    exact HRES.out

end Go.Proofs.Ytagibgphegoagaa
end

section
/- The elements at their places in the stable arrangement. Nothing of the program. -/
namespace Go.Proofs.Ytagibgphegoagaa
open P
set_option linter.unusedVariables false

theorem Of_map {α β : Type} {f : α → β} {key : β → Int} {l r : List α} (h : Stab.Of (fun a => key (f a)) l r) : Stab.Of key (l.map f) (r.map f) :=
  ⟨List.pairwise_map.2 h.sorted, fun q => by
    rw [List.filter_map, List.filter_map]; exact congrArg (List.map f) (h.same q)⟩

theorem stb_sortTo (l : List (Int × Int)) : stb l = (sortTo (l.map (·.1)) l.length).map (fun i => l.getD i.toNat (0, 0)) := by
  have h := sortTo_of (l.map (·.1)) l.length
  have h2 : Stab.Of (fun i : Int => (l.getD i.toNat (0, 0)).1) (iota l.length) (sortTo (l.map (·.1)) l.length) := Rx.of_congr (fun x hx => by
    unfold iota at hx
    obtain ⟨k, hk, rfl⟩ := List.mem_map.1 hx
    rw [keyOf_map, Int.toNat_natCast]) h
  have h3 := Of_map (f := fun i : Int => l.getD i.toNat (0, 0)) (key := fun p : Int × Int => p.1) h2
  have e : (iota l.length).map (fun i : Int => l.getD i.toNat (0, 0)) = l := by
    refine List.ext_getElem (by simp [iota]) fun k h1 h2 => ?_
    simp [iota, List.getD, h2]
  rw [e] at h3
  exact (stb_eq h3).symm

/-- Element i stands at its place. -/
theorem stb_rk {l : List (Int × Int)} {i : Nat} (hi : i < l.length) : rk l i < l.length ∧ (stb l)[rk l i]? = l[i]? := by
  have hp := sortTo_perm (l.map (·.1)) l.length
  have hm : (i : Int) ∈ sortTo (l.map (·.1)) l.length := hp.mem_iff.2 (by unfold iota; exact List.mem_map.2 ⟨i, List.mem_range.2 hi, rfl⟩)
  obtain ⟨m, hml, he⟩ := List.getElem_of_mem hm
  have hg : (sortTo (l.map (·.1)) l.length)[m]? = some (i : Int) := by rw [List.getElem?_eq_getElem hml, he]
  have hr := idx_rk l hg
  have hlen := sortTo_length (l.map (·.1)) l.length
  rw [hr]
  refine ⟨by omega, ?_⟩
  rw [stb_sortTo, List.getElem?_map, hg]
  simp [List.getD, hi]

end Go.Proofs.Ytagibgphegoagaa
end

section
/- The stable arrangement of indices, of any number of them. -/
namespace Go.Proofs.Ytagibgphegoagaa
open Go.RowKit Go.Sort Go.Lib StC P

theorem ins0_any (a : Option Addr) (c : Nat) (fv : Value) (w : World) :
    Calls Try.prog 195 #[.slice a 0 c, .int .i64 0, .int .i64 0, fv] w fun e w' => e = .returned (.tuple #[]) ∧ w' = w := by
  go_enter Try.func195, Try.ntmps195
  go_wp2_with fail
  go_loopw [8] (fun i wr => i = .int .i64 1 ∧ wr = w) (fun _ _ => 0)
  case atStart => exact ⟨rfl, rfl⟩
  case round =>
    obtain ⟨rfl, rfl⟩ := hrel
    go_wp2_with fail
    go_end0
    first | exact ⟨rfl, rfl⟩ | exact ⟨rfl, by trivial⟩

theorem sort0_any (a : Option Addr) (c : Nat) (fv : Value) (w : World) :
    Calls Try.prog 166 #[.slice a 0 c, fv] w fun e w' => e = .returned (.tuple #[]) ∧ w' = w := by
  have HI := Lib.hid (fun W => ins0_any a c fv W)
  have HS : Hid (∀ W, Calls Try.prog 185 #[.slice a 0 c, .int .i64 0, fv] W fun e w' => e = .returned (.tuple #[]) ∧ w' = W) := Lib.hid (fun W => by
    go_enter Try.func185, Try.ntmps185
    go_wp2_with fail
    go_loopw [7, 8] (fun i j wr => i = .int .i64 0 ∧ j = .int .i64 20 ∧ wr = W) (fun _ _ _ => 0)
    case atStart => exact ⟨rfl, rfl, rfl⟩
    case round =>
      obtain ⟨rfl, rfl, rfl⟩ := hrel
      go_wp2_with fail
      refine (HI.out _).mono ?_
      rintro e w1 ⟨rfl, rfl⟩
      go_wp2_with fail
      go_loopw [6, 7, 8] (fun i j k wr => i = .int .i64 20 ∧ wr = w1) (fun _ _ _ _ => 0)
      case atStart => exact ⟨rfl, rfl⟩
      case round =>
        obtain ⟨rfl, rfl⟩ := hrel
        go_wp2_with fail
        go_end0
        first | exact ⟨rfl, rfl⟩ | exact ⟨rfl, by trivial⟩)
  go_enter Try.func166, Try.ntmps166
  go_wp2_with fail
  refine (HS.out _).mono ?_
  rintro e w1 ⟨rfl, rfl⟩
  go_wp2_with fail
  go_end0
  first | exact ⟨rfl, rfl⟩ | exact ⟨rfl, by trivial⟩

theorem arrange0_any (b c : Nat) (fv : Value) (w : World) (_hb : b < w.heap.size) :
    Calls Try.prog 134 #[.slice (some ⟨b, 0, none⟩) 0 c, fv] w (RowI [] w) := by
  have HCL := Lib.hid (cloneInts_any b 0 c [] w ⟨_, c, rfl, Nat.zero_le _, fun j u hu => by simp [ints] at hu⟩ (by simp))
  go_enter Try.func134, Try.ntmps134
  go_wp2_with fail
  refine (HCL.out).mono ?_
  rintro e w1 ⟨g, cap, rfl, hcp, hg, hrow, hb⟩
  have HRES : Hid (RowI [] w (.returned (.slice (some ⟨g, 0, none⟩) 0 cap)) w1) := Lib.hid ⟨g, cap, rfl, hcp, hg, hrow, hb⟩
  clear hcp hg hrow hb HCL
  go_wp2_with fail
  refine (sort0_any _ _ _ _).mono ?_
  rintro e w2 ⟨rfl, rfl⟩
  go_wp2_with fail
  go_ret
  exact HRES.out

theorem arrangeN_any {NN : Nat} (N : Nat) (hN : N = NN + 1) (cf : Fin (NN + 1) → Fin (NN + 1) → Int) (hO : SWO (ltOf cf)) (gf : Nat) (cb : Array Value) (eg : ∀ args w, (callFunc gf args).run Try.prog w = .ok (.enter gf args) w) (b c : Nat) (w : World) (hr : CellRow w b (ints (iota N))) (hn : N ≤ 1048576)
    (hC : ∀ (W : World), Below w.heap.size w W → ∀ x y : Fin (NN + 1), Calls Try.prog gf (#[.int .i64 (x.val : Int), .int .i64 (y.val : Int)] ++ cb) W fun e w' => e = .returned (.int .i64 (cf x y)) ∧ ∃ q os', w' = grow (W.drewN q) os') (hcap : N ≤ c) :
    Calls Try.prog 134 #[.slice (some ⟨b, 0, none⟩) N c, .func (.func gf) #[] cb] w fun e w' =>
      ∃ (g cg : Nat) (M : List (Fin (NN + 1))), e = .returned (.slice (some ⟨g, 0, none⟩) N cg) ∧ N ≤ cg ∧ w.heap.size ≤ g ∧ CellRow w' g (ints (valsF M)) ∧ St (ltOf cf) (fins NN) M ∧ Below w.heap.size w w' := by
  subst hN
  exact arrange_any cf hO gf cb eg b c w hr hn hC hcap

end Go.Proofs.Ytagibgphegoagaa
end

section
/- The draws of record lists that may be invalid (anyRecords), by their contract. -/
namespace Go.Proofs.Ytagibgphegoagaa
open Go.RowKit

attribute [local go_sem ↓ high] builtin_append_held

/-- A list of at most 66 records, its numbers of moderate size. -/
def AnyRecsC (B g : Nat) (a : Option Addr) (len cap : Nat) (m : Nat) (w : World) (e : Ending) (w' : World) : Prop :=
  ∃ (v : Value) (l : List (Int × Int)), l.length ≤ 66 ∧ (∀ p ∈ l, (-1000000 ≤ p.1 ∧ p.1 ≤ 1000000) ∧ (-1000000 ≤ p.2 ∧ p.2 ≤ 1000000)) ∧ e = .returned v ∧ w'.ownsRow w.heap.size 39 2 v l.length (recs l) ∧ Cur B g a len cap (m + 700) w' ∧ But g w w' ∧ v ≠ .slice none 0 0

theorem all_snoc2 {L : List (Int × Int)} {x : Int × Int} {lo hi lo2 hi2 : Int} (h : ∀ p ∈ L, (lo ≤ p.1 ∧ p.1 ≤ hi) ∧ (lo2 ≤ p.2 ∧ p.2 ≤ hi2)) (hx : (lo ≤ x.1 ∧ x.1 ≤ hi) ∧ (lo2 ≤ x.2 ∧ x.2 ≤ hi2)) : ∀ p ∈ L ++ [x], (lo ≤ p.1 ∧ p.1 ≤ hi) ∧ (lo2 ≤ p.2 ∧ p.2 ≤ hi2) := fun y hy => by
  rcases List.mem_append.1 hy with h' | h'
  · exact h y h'
  · rw [List.mem_singleton.1 h']; exact hx

set_option maxRecDepth 100000 in
set_option maxHeartbeats 4000000 in
theorem anyRecords_any (B g : Nat) (a : Option Addr) (len cap : Nat) (m : Nat) (w : World) (h : Cur B g a len cap m w) (hm : m ≤ 900000) :
    Calls Try.prog 71 #[.pointer (some ⟨g, 0, none⟩)] w (AnyRecsC B g a len cap m w) := by
  have H := Lib.hid h
  have hgl := h.lt
  clear h
  go_enter Try.func71, Try.ntmps71
  go_wp2_with fail
  refine (records_any B g a len cap m _ H.out (by omega)).mono ?_
  rintro e w1 ⟨v, l, hl, hall, rfl, hown, hc, hb, hnn⟩
  have HNN := Lib.hid hnn
  have HALL : Hid (∀ p ∈ l, (-1000000 ≤ p.1 ∧ p.1 ≤ 1000000) ∧ (-1000000 ≤ p.2 ∧ p.2 ≤ 1000000)) := Lib.hid (fun x hx => by have := hall x hx; omega)
  have HO1 := Lib.hid hown
  have HC1 := Lib.hid hc
  have HB1 := Lib.hid hb
  clear hown hc hb H hall hnn
  go_wp2_with fail
  refine (pick_any B g a len cap _ 24 _ HC1.out (by omega) (by omega)).mono ?_
  rintro e w2 ⟨r, hr0, hr1, rfl, hc, hb⟩
  have HC2 := Lib.hid hc
  have HB2 := Lib.hid (HB1.out.trans hb)
  have HO2 := Lib.hid (own_but HO1.out hb hgl)
  clear hc hb HC1 HB1 HO1
  by_cases h0 : r = 0
  · subst h0
    clear hr0 hr1
    go_wp2_with fail
    refine (among_lit B g a len cap _ [0, 100001] 2 _ _ rfl rfl _ HC2.out (by omega) (by decide) (by decide)).mono ?_
    rintro e w3 ⟨y, hy, rfl, hc, hb⟩
    obtain ⟨x, hz, rfl⟩ := List.mem_map.1 hy
    have hx : -1000000 ≤ x ∧ x ≤ 1000000 := by simp only [List.mem_cons, List.not_mem_nil, or_false] at hz; omega
    have HC3 := Lib.hid hc
    have HB3 := Lib.hid (HB2.out.trans hb)
    have HO3 := Lib.hid (own_but HO2.out hb hgl)
    clear hc hb hy hz HC2 HB2 HO2
    go_wp2_with fail
    refine (among_lit B g a len cap _ [-1, 1000, 999] 3 _ _ rfl rfl _ HC3.out (by omega) (by decide) (by decide)).mono ?_
    rintro e w4 ⟨y, hy, rfl, hc, hb⟩
    obtain ⟨z, hz, rfl⟩ := List.mem_map.1 hy
    have hx2 : -1000000 ≤ z ∧ z ≤ 1000000 := by simp only [List.mem_cons, List.not_mem_nil, or_false] at hz; omega
    have HB4 := Lib.hid (HB3.out.trans hb)
    obtain ⟨v', w5, hrun, hown, hbel, _, _, hn5⟩ := appendRec w.heap.size _ l x z w4 (own_but HO3.out hb hgl) HB4.out.size (by omega)
    have HQ : Hid (AnyRecsC B g a len cap m w (.returned v') w5) := Lib.hid ⟨v', l ++ [(x, z)], by simp; omega, all_snoc2 HALL.out ⟨hx, hx2⟩, rfl, hown, (hc.keep (hbel.mono (show g + 1 ≤ w.heap.size by omega))).more (by omega), HB4.out.then_below hbel, hn5⟩
    clear hc hb hown hbel HC3 HB3 HO3 HB4 hy hz hx hx2 HALL
    go_wp2_with fail
    go_ret
    exact HQ.out
  · by_cases h1 : r = 1
    · subst h1
      clear hr0 hr1
      go_wp2_with fail
      go_loopw [3] (fun v wr => ∃ L : List (Int × Int), L.length ≤ 65 ∧ (∀ p ∈ L, (-1000000 ≤ p.1 ∧ p.1 ≤ 1000000) ∧ (-1000000 ≤ p.2 ∧ p.2 ≤ 1000000)) ∧ wr.ownsRow w.heap.size 39 2 v L.length (recs L) ∧ Cur B g a len cap (m + 202 + 4 * L.length) wr ∧ But g w wr ∧ v ≠ .slice none 0 0) (fun v _ => 70 - lenV v)
      case atStart => exact ⟨l, by omega, HALL.out, HO2.out, HC2.out.more (by omega), HB2.out, HNN.out⟩
      case round =>
        obtain ⟨L, hL, hall, hrow, hcur, hb, hnn⟩ := hrel
        have HN2 := Lib.hid hnn
        have HALL2 := Lib.hid hall
        have HROW := Lib.hid hrow
        have HCUR := Lib.hid hcur
        have HB := Lib.hid hb
        obtain ⟨a3, c3, rfl, _, _⟩ := own_flat hrow
        clear hall hrow hcur hb hnn HC2 HB2 HO2 HALL HNN
        go_wp2_with fail
        refine (pick_any B g a len cap _ 2 _ HCUR.out (by omega) (by omega)).mono ?_
        rintro e w3 ⟨q, hq0, hq1, rfl, hc, hb⟩
        have hq2 : q ≤ 1 := by omega
        have HC3 := Lib.hid hc
        have HB3 := Lib.hid (HB.out.trans hb)
        have HO3 := Lib.hid (own_but HROW.out hb hgl)
        clear hc hb HROW HCUR HB hq1
        by_cases hlt : (L.length : Int) < 64 + q
        · go_wp2_with fail
          refine (pick_any B g a len cap _ 5 _ HC3.out (by omega) (by omega)).mono ?_
          rintro e w4 ⟨x, hx0, hx1, rfl, hc, hb⟩
          have hx : -1000000 ≤ x ∧ x ≤ 1000000 := by omega
          have HB4 := Lib.hid (HB3.out.trans hb)
          obtain ⟨v', w5, hrun, hown, hbel, _, _, hn5⟩ := appendRec w.heap.size _ L x L.length w4 (own_but HO3.out hb hgl) HB4.out.size (by omega)
          have HO5 := Lib.hid hown
          have HC5 := Lib.hid (hc.keep (hbel.mono (show g + 1 ≤ w.heap.size by omega)))
          have HB5 := Lib.hid (HB4.out.then_below hbel)
          have HA5 := Lib.hid (all_snoc2 (x := (x, (L.length : Int))) HALL2.out ⟨hx, by simp; omega⟩)
          have hlen : lenV v' = L.length + 1 := by
            obtain ⟨a4, c4, e, _, _⟩ := own_flat hown
            rw [e, lenV_slice]; simp
          have HLEN := Lib.hid hlen
          have HN5 := Lib.hid hn5
          clear hc hb hown hbel hlen hn5 HC3 HB3 HO3 HB4 hx0 hx1 hx HALL2
          go_wp2_with fail
          go_roundw
          case rel => exact ⟨L ++ [(x, (L.length : Int))], by simp; omega, HA5.out, HO5.out, HC5.out.more (by simp; omega), HB5.out, HN5.out⟩
          case measure => rw [HLEN.out, lenV_slice]; omega
        · have HQ : Hid (AnyRecsC B g a len cap m w (.returned (.slice a3 L.length c3)) w3) := Lib.hid ⟨_, L, by omega, HALL2.out, rfl, HO3.out, HC3.out.more (by omega), HB3.out, HN2.out⟩
          go_wp2_with fail
          go_ret
          exact HQ.out
    · have HQ : Hid (AnyRecsC B g a len cap m w (.returned v) w2) := Lib.hid ⟨v, l, by omega, HALL.out, rfl, HO2.out, HC2.out.more (by omega), HB2.out, HNN.out⟩
      clear HC2 HB2 HO2 HALL
      go_wp2_with fail
      go_ret
      exact HQ.out

end Go.Proofs.Ytagibgphegoagaa
end

section
/- The program's SortingPermutation, by its contract: the whole. -/
namespace Go.Proofs.Ytagibgphegoagaa
open Go.RowKit Go.Sort Go.Lib StC P

theorem compareI_any (x y : Int) (W : World) : Calls Try.prog 133 #[.int .i64 x, .int .i64 y] W fun e w' => e = .returned (.int .i64 (compareInt x y)) ∧ w' = W := by
  by_cases h1 : x < y
  · have hd : Hid (compareInt x y = -1) := Lib.hid (by unfold compareInt; rw [if_pos h1])
    go_enter Try.func133, Try.ntmps133
    go_wp2
    go_ret
    exact ⟨by rw [hd.out]; rfl, rfl⟩
  · by_cases h2 : y < x
    · have hd : Hid (compareInt x y = 1) := Lib.hid (by unfold compareInt; rw [if_neg h1, if_pos h2])
      go_enter Try.func133, Try.ntmps133
      go_wp2
      go_ret
      exact ⟨by rw [hd.out]; rfl, rfl⟩
    · have hd : Hid (compareInt x y = 0) := Lib.hid (by unfold compareInt; rw [if_neg h1, if_neg h2])
      go_enter Try.func133, Try.ntmps133
      go_wp2
      go_ret
      exact ⟨by rw [hd.out]; rfl, rfl⟩

/-- The comparison of indices by the numbers that they stand for. -/
def cfL {NN : Nat} (l : List Int) (x y : Fin (NN + 1)) : Int := compareInt (l.getD x.val 0) (l.getD y.val 0)
theorem ltL {NN : Nat} (l : List Int) (x y : Fin (NN + 1)) : ltOf (cfL l) x y = decide (l.getD x.val 0 < l.getD y.val 0) := by
  unfold ltOf cfL compareInt
  by_cases h1 : l.getD x.val 0 < l.getD y.val 0
  · rw [if_pos h1]; simp only [h1]; rfl
  · rw [if_neg h1]
    by_cases h2 : l.getD y.val 0 < l.getD x.val 0
    · rw [if_pos h2]; simp only [h1]; rfl
    · rw [if_neg h2]; simp only [h1]; rfl
theorem swoL {NN : Nat} (l : List Int) : SWO (ltOf (cfL (NN := NN) l)) where
  irrefl x := by rw [ltL]; simp
  trans x y z h1 h2 := by rw [ltL] at *; simp only [decide_eq_true_eq] at *; omega
  ntrans x y z h1 h2 := by rw [ltL] at *; simp only [decide_eq_false_iff_not] at *; omega

theorem filter_vals {NN : Nat} (p : Int → Bool) (L : List (Fin (NN + 1))) : (valsF L).filter p = valsF (L.filter fun x => p (x.val : Int)) := by
  unfold valsF; rw [List.filter_map]; rfl
theorem stab_ofL {NN : Nat} {l : List Int} {M : List (Fin (NN + 1))} (h : St (ltOf (cfL l)) (fins NN) M) : Stab.Of (keyOf l) (iota (NN + 1)) (valsF M) := by
  have hk : ∀ x : Fin (NN + 1), keyOf l (x.val : Int) = l.getD x.val 0 := fun x => by unfold keyOf; rw [Int.toNat_natCast]
  refine ⟨?_, fun q => ?_⟩
  · unfold valsF
    rw [List.pairwise_map]
    refine h.sorted.imp fun {a b} hh => ?_
    rw [ltL] at hh
    rw [hk, hk]
    simp only [decide_eq_false_iff_not] at hh
    omega
  · rw [← valsF_fins, filter_vals, filter_vals]
    congr 1
    by_cases hq : ∃ z : Fin (NN + 1), l.getD z.val 0 = q
    · obtain ⟨z, hz⟩ := hq
      have e : (fun x : Fin (NN + 1) => keyOf l (x.val : Int) == q) = tie (ltOf (cfL l)) z := by
        funext x
        rw [hk]
        unfold tie
        rw [ltL, ltL, hz]
        generalize l.getD x.val 0 = y
        by_cases h1 : y = q
        · rw [h1]; simp
        · have h2 : (y == q) = false := by simpa using h1
          rw [h2]
          by_cases h3 : q < y
          · simp [h3]
          · have h4 : y < q := by omega
            simp [h4]
      have := h.same z
      rw [e]; exact this
    · have e : ∀ L : List (Fin (NN + 1)), L.filter (fun x => keyOf l (x.val : Int) == q) = [] := fun L => by
        rw [List.filter_eq_nil_iff]
        intro x _
        rw [hk]
        intro hx
        exact hq ⟨x, by simpa using hx⟩
      rw [e, e]

set_option maxRecDepth 100000 in
set_option maxHeartbeats 4000000 in
theorem byElement_any (a : Option Addr) (c box : Nat) (l : List Int) (x y : Nat) (W : World) (hbox : W.cell? ⟨box, 0, none⟩ = some (.slice a l.length c)) (H : ∀ (j : Nat) z, l[j]? = some z → ∃ b o, a = some ⟨b, o, none⟩ ∧ W.cell? ⟨b, o + j, none⟩ = some (.int .i64 z)) (hx : x < l.length) (hy : y < l.length) :
    Calls Try.prog 132 #[.int .i64 (x : Int), .int .i64 (y : Int), .pointer (some ⟨box, 0, none⟩)] W fun e w' => e = .returned (.int .i64 (compareInt (l.getD x 0) (l.getD y 0))) ∧ ∃ q os', w' = grow (W.drewN q) os' := by
  obtain ⟨b, o, rfl, hcx⟩ := H _ _ (at_getD hx)
  obtain ⟨b', o', e', hcy⟩ := H _ _ (at_getD hy)
  simp at e'
  obtain ⟨rfl, rfl⟩ := e'
  have HC := Lib.hid (fun W' => compareI_any (l.getD x 0) (l.getD y 0) W')
  have hxz : (x : Int) < l.length := by omega
  have hyz : (y : Int) < l.length := by omega
  generalize l.getD x 0 = p at *
  generalize l.getD y 0 = q at *
  generalize compareInt p q = r at *
  clear H hx hy
  go_enter Try.func132, Try.ntmps132
  go_wp2_with fail
  go_quiet (first | (go_at_call 133; refine Calls.quiet_of_same (HC.out _)))
  go_wp2_with fail
  go_ret
  exact ⟨rfl, nq, #[], by rw [grow_empty]⟩

set_option maxRecDepth 100000 in
set_option maxHeartbeats 4000000 in
theorem implSortP_any (v : Value) (l : List Int) (w : World) (hv : FlatAt w v l.length (ints l)) (hn : l.length ≤ 1048576) :
    Calls Try.prog 84 #[v] w (RetI (sortF l) w) := by
  obtain ⟨a, c, rfl, _⟩ := id hv
  have hB0 : Below w.heap.size w (w.alloc (.cells #[.slice a l.length c] 34)) := (Below.refl _ _).alloc (Nat.le_refl _) _
  have HB0 := Lib.hid hB0
  have hbox := cell_one_new w (.slice a l.length c) 34
  have HV := Lib.hid (hv.below hB0)
  obtain ⟨a', c', he, _, h⟩ := hv
  simp at he
  obtain ⟨rfl, rfl⟩ := he
  have HCELL : Hid (∀ (j : Nat) z, l[j]? = some z → ∃ b o, a = some ⟨b, o, none⟩ ∧ b < w.heap.size ∧ w.cell? ⟨b, o + j, none⟩ = some (.int .i64 z)) := Lib.hid (fun j z hj => h _ _ (ints_at hj))
  clear hB0 h
  obtain ⟨W0, hW0⟩ : ∃ W0, W0 = w.alloc (.cells #[.slice a l.length c] 34) := ⟨_, rfl⟩
  have hbx : W0.cell? ⟨w.heap.size, 0, none⟩ = some (.slice a l.length c) := by rw [hW0]; simp
  have hlt : w.heap.size < W0.heap.size := by rw [hW0]; simp
  rw [← hW0] at HB0 HV
  by_cases hok : OkL l
  · have hd : decide (OkL l) = true := decide_eq_true hok
    have HI := Lib.hid (fun W (h : FlatAt W (.slice a l.length c) l.length (ints l)) => by have := implValidList_any _ l W h hn; rw [hd] at this; exact this)
    have HF := Lib.hid (sortF_yes hok)
    have HID := Lib.hid (fun W => identity_any l.length W hn)
    have eg : ∀ args w, (callFunc 132 args).run Try.prog w = .ok (.enter 132 args) w := enters_of Try.func132 (by kernel_rfl) rfl
    have EG := Lib.hid eg
    clear hok hd hbox eg
    go_enter Try.func84, Try.ntmps84
    go_wp2_with fail
    rw [← hW0]
    refine (HI.out _ HV.out).mono ?_
    rintro e w1 ⟨rfl, hb1⟩
    have hbx1 : w1.cell? ⟨w.heap.size, 0, none⟩ = some (.slice a l.length c) := (hb1.cell (p := ⟨w.heap.size, 0, none⟩) hlt).trans hbx
    have hlt1 : w.heap.size < w1.heap.size := Nat.lt_of_lt_of_le hlt hb1.size
    have HB1 := Lib.hid (HB0.out.trans (hb1.mono HB0.out.size))
    clear hb1 HI HV hbx hlt HB0 hW0
    go_wp2_with fail
    refine (HID.out _).mono ?_
    rintro e w2 ⟨rfl, hrow, hb2⟩
    have HBX2 : Hid (w2.cell? ⟨w.heap.size, 0, none⟩ = some (.slice a l.length c)) := Lib.hid ((hb2.cell (p := ⟨w.heap.size, 0, none⟩) hlt1).trans hbx1)
    have hlt2 : w.heap.size < w2.heap.size := Nat.lt_of_lt_of_le hlt1 hb2.size
    have HB2 := Lib.hid (HB1.out.trans (hb2.mono HB1.out.size))
    have HR2 := Lib.hid (CellRow.of_row hrow)
    clear hrow hb2 hbx1 HID
    by_cases hz : l.length = 0
    · have HFZ : Hid (sortF l = ([], true)) := Lib.hid (by rw [HF.out, hz]; rfl)
      rw [hz] at HR2 HBX2 ⊢
      have HA := Lib.hid (arrange0_any w1.heap.size 0 (.func (.func 132) #[] #[.pointer (some ⟨w.heap.size, 0, none⟩)]) w2 HR2.out.1)
      clear hz
      go_wp2_with fail
      refine (HA.out).mono ?_
      rintro e w3 ⟨g, cg, rfl, hcg, hg, hrow, hb3⟩
      have HRES : Hid (RetI (sortF l) w (.returned (.tuple #[.slice (some ⟨g, 0, none⟩) 0 cg, .bool true])) w3) := Lib.hid (by rw [HFZ.out]; exact ⟨g, cg, rfl, hcg, Nat.le_trans HB2.out.size hg, hrow, HB2.out.trans (hb3.mono HB2.out.size)⟩)
      clear hcg hg hrow hb3 HA
      go_wp2_with fail
      go_ret2
      exact HRES.out
    · obtain ⟨NN, hNN⟩ : ∃ NN, l.length = NN + 1 := ⟨l.length - 1, by omega⟩
      have HNN := Lib.hid hNN
      have HA := Lib.hid (arrangeN_any l.length hNN (cfL l) (swoL l) 132 #[.pointer (some ⟨w.heap.size, 0, none⟩)] EG.out w1.heap.size l.length w2 HR2.out hn (fun W hW x y =>
          byElement_any a c w.heap.size l x.val y.val W ((hW.cell (p := ⟨w.heap.size, 0, none⟩) hlt2).trans HBX2.out) (fun j z hj => by
            obtain ⟨b, o, e, h1, h2⟩ := HCELL.out j z hj
            exact ⟨b, o, e, (hW.cell (p := ⟨b, o + j, none⟩) (show b < w2.heap.size by omega)).trans ((HB2.out.cell (p := ⟨b, o + j, none⟩) h1).trans h2)⟩) (by omega) (by omega)) (Nat.le_refl _))
      clear hz hNN
      go_wp2_with fail
      refine (HA.out).mono ?_
      rintro e w3 ⟨g, cg, M, rfl, hcg, hg, hrow, hM, hb3⟩
      have hst := stab_ofL hM
      rw [← HNN.out] at hst
      have hu := sortTo_uniq hst
      have hlen := sortTo_length l l.length
      rw [hu] at hrow
      have HRES : Hid (RetI (sortF l) w (.returned (.tuple #[.slice (some ⟨g, 0, none⟩) l.length cg, .bool true])) w3) := Lib.hid (by
        rw [HF.out]; exact ⟨g, cg, by rw [hlen], by rw [hlen]; exact hcg, Nat.le_trans HB2.out.size hg, hrow, HB2.out.trans (hb3.mono HB2.out.size)⟩)
      clear hcg hg hrow hM hb3 HA hst hu hlen
      go_wp2_with fail
      go_ret2
      exact HRES.out
  · have hd : decide (OkL l) = false := decide_eq_false hok
    have HI := Lib.hid (fun W (h : FlatAt W (.slice a l.length c) l.length (ints l)) => by have := implValidList_any _ l W h hn; rw [hd] at this; exact this)
    have HF := Lib.hid (sortF_no hok)
    clear hok hd hbox
    go_enter Try.func84, Try.ntmps84
    go_wp2_with fail
    rw [← hW0]
    refine (HI.out _ HV.out).mono ?_
    rintro e w1 ⟨rfl, hb1⟩
    have HRES : Hid (RetI (sortF l) w (.returned (.tuple #[.slice (some ⟨w1.heap.size, 0, none⟩) 0 0, .bool false])) (w1.alloc (.cells #[] 3))) := Lib.hid (by rw [HF.out]; exact RetI.none w w1 (HB0.out.trans (hb1.mono HB0.out.size)))
    clear hb1
    go_wp2_with fail
    go_ret2
    exact HRES.out

end Go.Proofs.Ytagibgphegoagaa
end

section
/- The draw of a list of records and a range of keys, by its contract. -/
namespace Go.Proofs.Ytagibgphegoagaa
open Go.RowKit
set_option linter.unusedVariables false

theorem l1MostI_any (x y : Int) (W : World) :
    Calls Try.prog 74 #[.int .i64 x, .int .i64 y] W fun e w' => e = .returned (.int .i64 (if y < x then x else y)) ∧ w' = W := by
  by_cases h : y < x
  · have hz : decide (y < x) = true := decide_eq_true h
    rw [if_pos h]
    go_enter Try.func74, Try.ntmps74
    go_wp2_with fail
    go_ret
    exact ⟨rfl, rfl⟩
  · have hz : decide (y < x) = false := decide_eq_false h
    rw [if_neg h]
    go_enter Try.func74, Try.ntmps74
    go_wp2_with fail
    go_ret
    exact ⟨rfl, rfl⟩
theorem l1LeastI_any (x y : Int) (W : World) :
    Calls Try.prog 73 #[.int .i64 x, .int .i64 y] W fun e w' => e = .returned (.int .i64 (if x < y then x else y)) ∧ w' = W := by
  by_cases h : x < y
  · have hz : decide (x < y) = true := decide_eq_true h
    rw [if_pos h]
    go_enter Try.func73, Try.ntmps73
    go_wp2_with fail
    go_ret
    exact ⟨rfl, rfl⟩
  · have hz : decide (x < y) = false := decide_eq_false h
    rw [if_neg h]
    go_enter Try.func73, Try.ntmps73
    go_wp2_with fail
    go_ret
    exact ⟨rfl, rfl⟩
/-- A key put at its place. -/
theorem CellRow.key {w : World} {g k : Nat} {l : List (Int × Int)} {p : Int × Int} (h : CellRow w g (recs l)) (hp : l[k]? = some p) (y : Int) : CellRow (w.setCell ⟨g, k * 2, none⟩ (.int .i64 y)) g (recs (l.set k (y, p.2))) := by
  have hk := (List.getElem?_eq_some_iff.1 hp).1
  have h1 := h.set (k * 2) (.int .i64 y) (by rw [recs_length]; omega)
  rw [← recs_set l k (y, p.2) hk]
  refine ⟨h1.1, fun j u hu => h1.2 j u ?_⟩
  rw [List.getElem?_set] at hu
  by_cases e : k * 2 + 1 = j
  · subst e
    have h2 := (recs_at hp).2
    have hlt : k * 2 + 1 < ((recs l).set (k * 2) (.int .i64 y)).length := by rw [List.length_set, recs_length]; omega
    simp only [if_pos, hlt] at hu
    rw [List.getElem?_set_ne (by omega), h2]; exact hu
  · rw [if_neg e] at hu; exact hu

def CsD (w : World) (e : Ending) (w' : World) : Prop :=
  ∃ (g1 c1 : Nat) (L1 : List (Int × Int)) (x y : Int), L1.length ≤ 66 ∧ -100001 ≤ x ∧ x ≤ 1 ∧ -100002 ≤ y ∧ y ≤ 1002 ∧ e = .returned (.tuple #[.slice (some ⟨g1, 0, none⟩) L1.length c1, .int .i64 x, .int .i64 y]) ∧ L1.length ≤ c1 ∧ CellRow w' g1 (recs L1) ∧ Below w.heap.size w w'

set_option maxRecDepth 100000 in
set_option maxHeartbeats 4000000 in
theorem drawCs_any (a : Option Addr) (len cap : Nat) (w : World) (h : Code0 w a len) :
    Calls Try.prog 21 #[.slice a len cap] w (CsD w) := by
  have H := Lib.hid (cur_new h cap 72)
  have hb0 : (w.alloc (.cells #[.slice a len cap, .int .i64 0, .int .u64 0] 72)).heap.size = w.heap.size + 1 := by simp
  have HB0 : Hid (Below w.heap.size w (w.alloc (.cells #[.slice a len cap, .int .i64 0, .int .u64 0] 72))) := Lib.hid ((Below.refl _ _).alloc (Nat.le_refl _) _)
  clear h
  go_enter Try.func21, Try.ntmps21
  go_wp2_with fail
  refine (anyRecords_any w.heap.size w.heap.size a len cap 0 _ H.out (by omega)).mono ?_
  rintro e w1 ⟨v, l, hl, _, rfl, hown, hc, hb, hnn⟩
  obtain ⟨g1, c1, rfl, hgs, hc1, hrow⟩ : ∃ g1 c1, v = .slice (some ⟨g1, 0, none⟩) l.length c1 ∧ w.heap.size < g1 ∧ l.length ≤ c1 ∧ CellRow w1 g1 (recs l) := by
    rcases hown.2 with ⟨e, _⟩ | ⟨g, cp, cur, rfl, _⟩
    · exact absurd e hnn
    · obtain ⟨h1, h2, h3⟩ := CellRow.of_own hown
      exact ⟨g, cp, rfl, by omega, h2, h3⟩
  have hg1 : g1 ≠ w.heap.size := by omega
  have HC1 := Lib.hid hc
  have HB1 := Lib.hid (HB0.out.trans (hb.below (Nat.le_refl _) HB0.out.size))
  have HL1 := Lib.hid hrow
  clear hown hc hb hrow H hb0 HB0 hnn
  go_wp2_with fail
  refine (one_any w.heap.size w.heap.size a len cap _ 4 _ HC1.out (by omega) (by omega)).mono ?_
  rintro e w2 ⟨bb, rfl, hc, hb⟩
  have HC2 : Hid (Cur w.heap.size w.heap.size a len cap 1000 w2) := Lib.hid (hc.more (by omega))
  have HB2 := Lib.hid (HB1.out.trans (hb.below (Nat.le_refl _) HB1.out.size))
  have HL2 := Lib.hid (HL1.out.but hb hg1)
  clear hc hb HC1 HB1 HL1
  cases bb
  · go_wp2_with fail
    go_loopw [7] (fun iv wr => ∃ (i : Nat) (M : List (Int × Int)), iv = .int .i64 (i : Int) ∧ i ≤ l.length ∧ M.length = l.length ∧ CellRow wr g1 (recs M) ∧ Cur w.heap.size w.heap.size a len cap 1000 wr ∧ Below w.heap.size w wr) (fun iv _ => l.length - (intOf iv).toNat)
    case atStart => exact ⟨0, l, rfl, Nat.zero_le _, rfl, HL2.out, HC2.out, HB2.out⟩
    case round =>
      obtain ⟨i, M, rfl, hil, hML, hrow, hcur, hb⟩ := hrel
      have HMR := Lib.hid hrow
      have HMC := Lib.hid hcur
      have HMB := Lib.hid hb
      have HML := Lib.hid hML
      clear hrow hcur hb hML HL2 HC2 HB2
      by_cases hlt : i < l.length
      · have hiz : (i : Int) < (l.length : Int) := by omega
        have hid : decide ((i : Int) < (l.length : Int)) = true := decide_eq_true hiz
        have hiM : i < M.length := by rw [HML.out]; exact hlt
        obtain ⟨p, hp⟩ : ∃ p, M[i]? = some p := ⟨_, List.getElem?_eq_getElem hiM⟩
        obtain ⟨hcx, _⟩ := HMR.out.2 _ _ (recs_at hp).1
        have HMS := Lib.hid (fun y => HMR.out.key hp y)
        clear hiM hp
        go_wp2_with fail
        refine (l1MostI_any p.1 0 _).mono ?_
        rintro e wa ⟨rfl, rfl⟩
        generalize (if (0 : Int) < p.1 then p.1 else 0) = y1
        go_wp2_with fail
        refine (l1LeastI_any y1 6 _).mono ?_
        rintro e wb ⟨rfl, rfl⟩
        generalize (if y1 < (6 : Int) then y1 else 6) = y2
        go_wp2_with fail
        go_roundw
        case rel => exact ⟨i + 1, M.set i (y2, p.2), by go_num, by omega, by rw [List.length_set]; exact HML.out, HMS.out y2, HMC.out.keep ((Below.refl (w.heap.size + 1) _).setCell (p := ⟨g1, i * 2, none⟩) (by simp only; omega) _), HMB.out.trans ((Below.refl w.heap.size _).setCell (p := ⟨g1, i * 2, none⟩) (by simp only; omega) _)⟩
        case measure => simp [intOf]; omega
      · have hiz : ¬ (i : Int) < (l.length : Int) := by omega
        have hid : decide ((i : Int) < (l.length : Int)) = false := decide_eq_false hiz
        have hMl := HML.out
        go_wp2_with fail
        rw [← hMl] at hc1 hl ⊢
        have HCQ := HMC
        have HBQ := HMB
        have HLQ := HMR
        clear hiz hid hlt hil hMl HML HMC HMB HMR
        obtain ⟨W1, hW1⟩ : ∃ W1, W1 = wr.alloc (.cells #[.int .i64 0, .int .i64 0, .int .i64 (-5), .int .i64 1, .int .i64 (-100000), .int .i64 (-100001)] 3) := ⟨_, rfl⟩
        have hrow : RowIs W1 wr.heap.size 3 (ints [0, 0, -5, 1, -100000, -100001]) := by rw [hW1]; exact heap_alloc_new wr _
        have HR := Lib.hid (CellRow.of_row hrow)
        have H1 : Hid (Cur w.heap.size w.heap.size a len cap 1000 W1) := Lib.hid (by rw [hW1]; exact HCQ.out.alloc _)
        have HB3 : Hid (Below w.heap.size w W1) := Lib.hid (by rw [hW1]; exact HBQ.out.alloc HBQ.out.size _)
        have HL3 : Hid (CellRow W1 g1 (recs M)) := Lib.hid (by rw [hW1]; exact HLQ.out.below ((Below.refl _ _).alloc (Nat.le_refl _) _) HLQ.out.1)
        have hgl := HCQ.out.lt
        have hne : wr.heap.size ≠ w.heap.size := by omega
        clear hrow HCQ HBQ HLQ
        go_wp2_with fail
        rw [← hW1]
        refine (pick_any w.heap.size w.heap.size a len cap 1000 7 W1 H1.out (by omega) (by omega)).mono ?_
        rintro e w3 ⟨r, hr0, hr1, rfl, hc, hb⟩
        have H2 := Lib.hid hc
        have HB4 := Lib.hid (HB3.out.trans (hb.below (Nat.le_refl _) HB3.out.size))
        have HR2 := Lib.hid (HR.out.but hb hne)
        have HL4 := Lib.hid (HL3.out.but hb hg1)
        obtain ⟨k, rfl⟩ : ∃ k : Nat, r = k := ⟨r.toNat, by omega⟩
        have hk : k < 7 := by omega
        obtain ⟨n, hn⟩ : ∃ n, n = 3 + k / 2 := ⟨_, rfl⟩
        have hn9 : n ≤ 6 := by omega
        have hn7 : 3 ≤ n := by omega
        have hwn : (3 : Int) + (k : Int) / 2 = (n : Int) := by omega
        obtain ⟨G, hG⟩ : ∃ G, G = wr.heap.size := ⟨_, rfl⟩
        have HA := Lib.hid (fun (W : World) (c : Nat) (hW : Cur w.heap.size w.heap.size a len cap 1002 W) (hr : CellRow W G (ints [0, 0, -5, 1, -100000, -100001])) => amongN_any w.heap.size w.heap.size a len cap 1002 G [0, 0, -5, 1, -100000, -100001] n c W hW (by omega) hr (by rw [hG]; exact hne) (by omega) (by simp; omega) (by simp))
        rw [← hG] at HR2 ⊢
        clear hc hb hr0 hr1 hn HR H1 HB3 HL3 hW1 hG hne
        go_wp2_with fail
        refine (HA.out _ _ H2.out HR2.out).mono ?_
        rintro e w4 ⟨y, hy, rfl, hc, hb⟩
        have hy2 : -100001 ≤ y ∧ y ≤ 1 := by simp at hy; omega
        have HB5 := Lib.hid (HB4.out.trans (hb.below (Nat.le_refl _) HB4.out.size))
        have HL5 := Lib.hid (HL4.out.but hb hg1)
        obtain ⟨V1, hV1⟩ : ∃ V1, V1 = w4.alloc (.cells #[.int .i64 6, .int .i64 11, .int .i64 1000, .int .i64 1001, .int .i64 3, .int .i64 (-1)] 3) := ⟨_, rfl⟩
        have hrow : RowIs V1 w4.heap.size 3 (ints [6, 11, 1000, 1001, 3, -1]) := by rw [hV1]; exact heap_alloc_new w4 _
        have HR := Lib.hid (CellRow.of_row hrow)
        have H1 : Hid (Cur w.heap.size w.heap.size a len cap 1004 V1) := Lib.hid (by rw [hV1]; exact hc.alloc _)
        have HB6 : Hid (Below w.heap.size w V1) := Lib.hid (by rw [hV1]; exact HB5.out.alloc HB5.out.size _)
        have HL6 : Hid (CellRow V1 g1 (recs M)) := Lib.hid (by rw [hV1]; exact HL5.out.below ((Below.refl _ _).alloc (Nat.le_refl _) _) HL5.out.1)
        have hgl := hc.lt
        have hne : w4.heap.size ≠ w.heap.size := by omega
        clear hrow hy hc hb HA HR2 HL4 HB4 HB5 HL5 hk hn9 hn7 hwn H2
        go_wp2_with fail
        rw [← hV1]
        refine (pick_any w.heap.size w.heap.size a len cap 1004 7 V1 H1.out (by omega) (by omega)).mono ?_
        rintro e w5 ⟨r, hr0, hr1, rfl, hc, hb⟩
        have H2 := Lib.hid hc
        have HB7 := Lib.hid (HB6.out.trans (hb.below (Nat.le_refl _) HB6.out.size))
        have HR2 := Lib.hid (HR.out.but hb hne)
        have HL7 := Lib.hid (HL6.out.but hb hg1)
        obtain ⟨k2, rfl⟩ : ∃ k : Nat, r = k := ⟨r.toNat, by omega⟩
        have hk : k2 < 7 := by omega
        obtain ⟨n2, hn⟩ : ∃ n, n = 3 + k2 / 2 := ⟨_, rfl⟩
        have hn9 : n2 ≤ 6 := by omega
        have hn7 : 3 ≤ n2 := by omega
        have hwn : (3 : Int) + (k2 : Int) / 2 = (n2 : Int) := by omega
        obtain ⟨G2, hG⟩ : ∃ G, G = w4.heap.size := ⟨_, rfl⟩
        have HA := Lib.hid (fun (W : World) (c : Nat) (hW : Cur w.heap.size w.heap.size a len cap 1006 W) (hr : CellRow W G2 (ints [6, 11, 1000, 1001, 3, -1])) => amongN_any w.heap.size w.heap.size a len cap 1006 G2 [6, 11, 1000, 1001, 3, -1] n2 c W hW (by omega) hr (by rw [hG]; exact hne) (by omega) (by simp; omega) (by simp))
        rw [← hG] at HR2 ⊢
        clear hc hb hr0 hr1 hn HR H1 HB6 HL6 hV1 hG hne
        go_wp2_with fail
        refine (HA.out _ _ H2.out HR2.out).mono ?_
        rintro e w6 ⟨z, hz, rfl, hc, hb⟩
        have hz2 : -1 ≤ z ∧ z ≤ 1001 := by simp at hz; omega
        have HRES : Hid (CsD w (.returned (.tuple #[.slice (some ⟨g1, 0, none⟩) M.length c1, .int .i64 y, .int .i64 (y + z)])) w6) := Lib.hid ⟨g1, c1, M, y, y + z, by omega, by omega, by omega, by omega, by omega, rfl, hc1, HL7.out.but hb hg1, HB7.out.trans (hb.below (Nat.le_refl _) HB7.out.size)⟩
        clear hz hc hb HA HR2 HB7 HL7
        go_wp2_with fail
        go_ret3
        exact HRES.out
  · obtain ⟨wq, hwq⟩ : ∃ wq, wq = w2 := ⟨_, rfl⟩
    rw [← hwq] at HC2 HB2 HL2 ⊢
    obtain ⟨M, hM⟩ : ∃ M, M = l := ⟨_, rfl⟩
    rw [← hM] at HL2 hc1 hl ⊢
    clear hwq hM
    have HCQ := HC2
    have HBQ := HB2
    have HLQ := HL2
    clear HC2 HB2 HL2
    obtain ⟨W1, hW1⟩ : ∃ W1, W1 = wq.alloc (.cells #[.int .i64 0, .int .i64 0, .int .i64 (-5), .int .i64 1, .int .i64 (-100000), .int .i64 (-100001)] 3) := ⟨_, rfl⟩
    have hrow : RowIs W1 wq.heap.size 3 (ints [0, 0, -5, 1, -100000, -100001]) := by rw [hW1]; exact heap_alloc_new wq _
    have HR := Lib.hid (CellRow.of_row hrow)
    have H1 : Hid (Cur w.heap.size w.heap.size a len cap 1000 W1) := Lib.hid (by rw [hW1]; exact HCQ.out.alloc _)
    have HB3 : Hid (Below w.heap.size w W1) := Lib.hid (by rw [hW1]; exact HBQ.out.alloc HBQ.out.size _)
    have HL3 : Hid (CellRow W1 g1 (recs M)) := Lib.hid (by rw [hW1]; exact HLQ.out.below ((Below.refl _ _).alloc (Nat.le_refl _) _) HLQ.out.1)
    have hgl := HCQ.out.lt
    have hne : wq.heap.size ≠ w.heap.size := by omega
    clear hrow HCQ HBQ HLQ
    go_wp2_with fail
    rw [← hW1]
    refine (pick_any w.heap.size w.heap.size a len cap 1000 7 W1 H1.out (by omega) (by omega)).mono ?_
    rintro e w3 ⟨r, hr0, hr1, rfl, hc, hb⟩
    have H2 := Lib.hid hc
    have HB4 := Lib.hid (HB3.out.trans (hb.below (Nat.le_refl _) HB3.out.size))
    have HR2 := Lib.hid (HR.out.but hb hne)
    have HL4 := Lib.hid (HL3.out.but hb hg1)
    obtain ⟨k, rfl⟩ : ∃ k : Nat, r = k := ⟨r.toNat, by omega⟩
    have hk : k < 7 := by omega
    obtain ⟨n, hn⟩ : ∃ n, n = 3 + k / 2 := ⟨_, rfl⟩
    have hn9 : n ≤ 6 := by omega
    have hn7 : 3 ≤ n := by omega
    have hwn : (3 : Int) + (k : Int) / 2 = (n : Int) := by omega
    obtain ⟨G, hG⟩ : ∃ G, G = wq.heap.size := ⟨_, rfl⟩
    have HA := Lib.hid (fun (W : World) (c : Nat) (hW : Cur w.heap.size w.heap.size a len cap 1002 W) (hr : CellRow W G (ints [0, 0, -5, 1, -100000, -100001])) => amongN_any w.heap.size w.heap.size a len cap 1002 G [0, 0, -5, 1, -100000, -100001] n c W hW (by omega) hr (by rw [hG]; exact hne) (by omega) (by simp; omega) (by simp))
    rw [← hG] at HR2 ⊢
    clear hc hb hr0 hr1 hn HR H1 HB3 HL3 hW1 hG hne
    go_wp2_with fail
    refine (HA.out _ _ H2.out HR2.out).mono ?_
    rintro e w4 ⟨y, hy, rfl, hc, hb⟩
    have hy2 : -100001 ≤ y ∧ y ≤ 1 := by simp at hy; omega
    have HB5 := Lib.hid (HB4.out.trans (hb.below (Nat.le_refl _) HB4.out.size))
    have HL5 := Lib.hid (HL4.out.but hb hg1)
    obtain ⟨V1, hV1⟩ : ∃ V1, V1 = w4.alloc (.cells #[.int .i64 6, .int .i64 11, .int .i64 1000, .int .i64 1001, .int .i64 3, .int .i64 (-1)] 3) := ⟨_, rfl⟩
    have hrow : RowIs V1 w4.heap.size 3 (ints [6, 11, 1000, 1001, 3, -1]) := by rw [hV1]; exact heap_alloc_new w4 _
    have HR := Lib.hid (CellRow.of_row hrow)
    have H1 : Hid (Cur w.heap.size w.heap.size a len cap 1004 V1) := Lib.hid (by rw [hV1]; exact hc.alloc _)
    have HB6 : Hid (Below w.heap.size w V1) := Lib.hid (by rw [hV1]; exact HB5.out.alloc HB5.out.size _)
    have HL6 : Hid (CellRow V1 g1 (recs M)) := Lib.hid (by rw [hV1]; exact HL5.out.below ((Below.refl _ _).alloc (Nat.le_refl _) _) HL5.out.1)
    have hgl := hc.lt
    have hne : w4.heap.size ≠ w.heap.size := by omega
    clear hrow hy hc hb HA HR2 HL4 HB4 HB5 HL5 hk hn9 hn7 hwn H2
    go_wp2_with fail
    rw [← hV1]
    refine (pick_any w.heap.size w.heap.size a len cap 1004 7 V1 H1.out (by omega) (by omega)).mono ?_
    rintro e w5 ⟨r, hr0, hr1, rfl, hc, hb⟩
    have H2 := Lib.hid hc
    have HB7 := Lib.hid (HB6.out.trans (hb.below (Nat.le_refl _) HB6.out.size))
    have HR2 := Lib.hid (HR.out.but hb hne)
    have HL7 := Lib.hid (HL6.out.but hb hg1)
    obtain ⟨k2, rfl⟩ : ∃ k : Nat, r = k := ⟨r.toNat, by omega⟩
    have hk : k2 < 7 := by omega
    obtain ⟨n2, hn⟩ : ∃ n, n = 3 + k2 / 2 := ⟨_, rfl⟩
    have hn9 : n2 ≤ 6 := by omega
    have hn7 : 3 ≤ n2 := by omega
    have hwn : (3 : Int) + (k2 : Int) / 2 = (n2 : Int) := by omega
    obtain ⟨G2, hG⟩ : ∃ G, G = w4.heap.size := ⟨_, rfl⟩
    have HA := Lib.hid (fun (W : World) (c : Nat) (hW : Cur w.heap.size w.heap.size a len cap 1006 W) (hr : CellRow W G2 (ints [6, 11, 1000, 1001, 3, -1])) => amongN_any w.heap.size w.heap.size a len cap 1006 G2 [6, 11, 1000, 1001, 3, -1] n2 c W hW (by omega) hr (by rw [hG]; exact hne) (by omega) (by simp; omega) (by simp))
    rw [← hG] at HR2 ⊢
    clear hc hb hr0 hr1 hn HR H1 HB6 HL6 hV1 hG hne
    go_wp2_with fail
    refine (HA.out _ _ H2.out HR2.out).mono ?_
    rintro e w6 ⟨z, hz, rfl, hc, hb⟩
    have hz2 : -1 ≤ z ∧ z ≤ 1001 := by simp at hz; omega
    have HRES : Hid (CsD w (.returned (.tuple #[.slice (some ⟨g1, 0, none⟩) M.length c1, .int .i64 y, .int .i64 (y + z)])) w6) := Lib.hid ⟨g1, c1, M, y, y + z, by omega, by omega, by omega, by omega, by omega, rfl, hc1, HL7.out.but hb hg1, HB7.out.trans (hb.below (Nat.le_refl _) HB7.out.size)⟩
    clear hz hc hb HA HR2 HB7 HL7
    go_wp2_with fail
    go_ret3
    exact HRES.out

end Go.Proofs.Ytagibgphegoagaa
end

section
/- The program's SortedPositions, by its contract. -/
namespace Go.Proofs.Ytagibgphegoagaa
open Go.RowKit Rx P
set_option linter.unusedVariables false

set_option maxRecDepth 100000 in
set_option maxHeartbeats 4000000 in
theorem implSp_any (b' o c : Nat) (l : List (Int × Int)) (w : World) (hv : FlatAt w (.slice (some ⟨b', o, none⟩) l.length c) l.length (recs l)) (hn : l.length ≤ 1048576) :
    Calls Try.prog 25 #[.slice (some ⟨b', o, none⟩) l.length c] w (RetIE (spAll l) w) := by
  have HV := Lib.hid (implValidRecs_any _ l w hv hn)
  by_cases hok : OkR l
  · rw [decide_eq_true hok] at HV
    have HF := Lib.hid (spAll_yes hok)
    have hlm : (l.map (·.1)).length = l.length := by simp
    have HKEYS := Lib.hid (fun W (h : Below w.heap.size w W) => keysOf_any _ l W (hv.below h) hn)
    have HSP := Lib.hid (fun (g : Nat) W (hr : CellRow W g (ints (l.map (·.1)))) => implSortP_any (.slice (some ⟨g, 0, none⟩) l.length l.length) (l.map (·.1)) W (by rw [hlm]; exact hr.flat (Nat.le_refl _)) (by rw [hlm]; exact hn))
    have e1 : sortF (l.map (·.1)) = (sortTo (l.map (·.1)) l.length, true) := by rw [sortF_yes (okL_map hok), hlm]
    rw [e1] at HSP
    have HPL := Lib.hid (sortTo_length (l.map (·.1)) l.length)
    have HINV := Lib.hid (fun (v : Value) W (h : FlatAt W v (sortTo (l.map (·.1)) l.length).length (ints (sortTo (l.map (·.1)) l.length))) => implInv_any v _ W h (by rw [HPL.out]; exact hn))
    rw [pos_inv hok] at HINV
    rw [HF.out]
    clear hok hv hlm e1 HF
    generalize sortTo (l.map (·.1)) l.length = P at *
    generalize spF l = M at *
    go_enter Try.func25, Try.ntmps25
    go_wp2_with fail
    refine HV.out.mono ?_
    rintro e w1 ⟨rfl, hb1⟩
    have HB1 := Lib.hid hb1
    clear hb1 HV
    go_wp2_with fail
    refine (HKEYS.out _ HB1.out).mono ?_
    rintro e w2 ⟨gk, rfl, hgk, hrk, hb2⟩
    have HB2 := Lib.hid (HB1.out.trans (hb2.mono HB1.out.size))
    have HS := Lib.hid (HSP.out gk w2 hrk)
    clear hgk hrk hb2 HB1 HKEYS HSP
    go_wp2_with fail
    refine HS.out.mono ?_
    rintro e w3 ⟨g3, c3, rfl, hc3, hg3, hr3, hb3⟩
    simp only at hc3 hr3
    have HB3 := Lib.hid (HB2.out.trans (hb3.mono HB2.out.size))
    have HI := Lib.hid (HINV.out _ w3 (hr3.flat hc3))
    clear hg3 hr3 hb3 hc3 HB2 HS HINV
    go_wp2_with fail
    refine HI.out.mono ?_
    rintro e w4 ⟨g4, c4, rfl, hc4, hg4, hr4, hb4⟩
    have HRES : Hid (RetIE (M, true) w (.returned (.tuple #[.slice (some ⟨g4, 0, none⟩) M.length c4, .bool true])) w4) := Lib.hid (.inl ⟨g4, c4, rfl, hc4, Nat.le_trans HB3.out.size hg4, hr4, HB3.out.trans (hb4.mono HB3.out.size)⟩)
    clear hc4 hg4 hr4 hb4 HI HB3
    go_wp2_with fail
    go_ret2
    exact HRES.out
  · rw [decide_eq_false hok] at HV
    rw [spAll_no hok]
    clear hok hv
    go_enter Try.func25, Try.ntmps25
    go_wp2_with fail
    refine HV.out.mono ?_
    rintro e w1 ⟨rfl, hb1⟩
    have HRES : Hid (RetIE ([], false) w (.returned (.tuple #[.slice none 0 0, .bool false])) w1) := Lib.hid (.inr ⟨rfl, _, _, rfl, hb1⟩)
    clear hb1 HV
    go_wp2_with fail
    go_ret2
    exact HRES.out

end Go.Proofs.Ytagibgphegoagaa
end
