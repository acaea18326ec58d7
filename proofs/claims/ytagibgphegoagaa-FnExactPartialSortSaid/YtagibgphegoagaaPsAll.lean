/- RetN0 DrawI SrtH Res4 MarkZ Arr Vals SDu3 ISortQ SortedI SPso IPso, as one text. -/
import Derived.Test.YtagibgphegoagaaRetCE
import Derived.Test.YtagibgphegoagaaCode
import Derived.Test.YtagibgphegoagaaAmong
import Derived.Test.YtagibgphegoagaaInts
import Derived.OwnWalk
import Derived.Maps.AppendAt
import Derived.Test.YtagibgphegoagaaOwnH
import Derived.Test.YtagibgphegoagaaInsP
import Derived.BigRegion
import Derived.Laws.BitsLemmas
import Derived.Test.YtagibgphegoagaaRet12
import Derived.Test.YtagibgphegoagaaRetZ
import Derived.Test.YtagibgphegoagaaIntSE
import Derived.Test.YtagibgphegoagaaIntSM
import Derived.Test.YtagibgphegoagaaIntSH
import Derived.Test.YtagibgphegoagaaISortP
import Derived.Test.YtagibgphegoagaaSteps
import Derived.Test.YtagibgphegoagaaRetI
import Derived.Test.YtagibgphegoagaaElem2
import Derived.RangeFuncNested
import Derived.RangeFuncBound
import Derived.RangeFuncCalls
import Derived.RangeFuncLeaves
import Derived.RangeFuncBox
import Derived.RangeFuncFrom
import Derived.Shelf.Abstract
import Derived.WalkKit
import Derived.OwnWalkIn
import Derived.TacticsInMore
import Derived.LoopNIn
import Derived.LoopIn
import Derived.Lib.Hide
import Derived.Test.YtagibgphegoagaaQuickA
import Derived.Test.YtagibgphegoagaaOwnN
import Derived.BigQuiet
import Derived.Deep.QuietTactic
import Derived.Test.YtagibgphegoagaaSortF
import Derived.Test.YtagibgphegoagaaStabPos
import Derived.Test.YtagibgphegoagaaShelf
import Derived.Lib.SlKeysI
import Derived.Test.YtagibgphegoagaaPsP
import Derived.Test.YtagibgphegoagaaIEl

section
/- The answer of an invalid call: no list. -/
namespace Go.Proofs.Ytagibgphegoagaa
open Go.RowKit
set_option linter.unusedVariables false

theorem RetCE.nil0 (w w1 : World) (hb : Below w.heap.size w w1) : RetCE ([], false) w (.returned (.tuple #[.slice none 0 0, .bool false])) w1 := .inr ⟨rfl, _, _, rfl, hb⟩
theorem Ret1CE.nil0 (w w1 : World) (hb : Below w.heap.size w w1) : Ret1CE ([], 0, false) w (.returned (.tuple #[.slice none 0 0, .int .i64 0, .bool false])) w1 := .inr ⟨rfl, _, _, rfl, hb⟩
theorem RetIE.nil0 (w w1 : World) (hb : Below w.heap.size w w1) : RetIE ([], false) w (.returned (.tuple #[.slice none 0 0, .bool false])) w1 := .inr ⟨rfl, _, _, rfl, hb⟩

end Go.Proofs.Ytagibgphegoagaa
end

section
/- The draws of lists of numbers (ints), by their contract: a short valid list in a new row, and nothing but the cursor moved. -/
namespace Go.Proofs.Ytagibgphegoagaa
open Go.RowKit

attribute [local go_sem ↓ high] builtin_append_held

theorem But.then_below {g : Nat} {w a b : World} (h : But g w a) (k : Below w.heap.size a b) : But g w b :=
  ⟨k.os.trans h.os, k.tape.trans h.tape, k.output.trans h.output, Nat.le_trans h.size k.size, fun i hi hg => (k.block i hi).trans (h.block i hi hg)⟩

theorem own_but {w w' : World} {base g : Nat} {e : TypeId} {size n : Nat} {v : Value} {xs : List Value} (h : w.ownsRow base e size v n xs) (hb : But g w w') (hB : g < base) : w'.ownsRow base e size v n xs := by
  have hlt := h.lt
  refine ⟨h.1, ?_⟩
  rcases h.2 with hn | ⟨j, cap, cur, rfl, h1, hg, rest⟩
  · exact .inl hn
  · have := hlt j rfl
    exact .inr ⟨j, cap, cur, rfl, h1, (hb.block j this.2 (by omega)).trans hg, rest⟩

theorem infoIntA : (Try.prog.info? 3).map (fun i => (i.zero, i.size, i.bytes)) = some (some (.int .i64 0), 1, 8) := by kernel_rfl

/-- 'append(l, n)' of one number to a row of its own. -/
theorem appendInt (base : Nat) (v : Value) (L : List Int) (x : Int) (w : World) (h : w.ownsRow base 3 1 v L.length (ints L)) (hb : base ≤ w.heap.size) (hn : L.length ≤ 1048576) :
    ∃ v' w', (heldAppend #[34, 34] 34 #[v, .slice (some ⟨w.heap.size, 0, none⟩) 1 1]).run Try.prog (w.alloc (.cells #[.int .i64 x] 3)) = .ok v' w' ∧
      w'.ownsRow base 3 1 v' (L ++ [x]).length (ints (L ++ [x])) ∧ Below base w w' := by
  obtain ⟨i0, hi, hz0, hz1, hz2⟩ := info_parts infoIntA
  obtain ⟨v', w', hrun, hown, hgrow, _⟩ := run_append_own (P := Try.prog) (w := w.alloc (.cells #[.int .i64 x] 3)) base 34 34 3 i0 (.int .i64 0) 1 8 Try.underlying34 hi hz0 hz1 hz2 rfl (by decide)
    _ L.length (ints L) (World.ownsRow.alloc h _) ⟨w.heap.size, 0, none⟩ 1 1 [.int .i64 x] rfl (cell_one_new w _ _) (by simp [Value.oneCell']) (by unfold maxLen; omega) (by omega) (by simp; omega)
  refine ⟨v', w', hrun, ?_, ((Below.refl base w).alloc hb _).grown hgrow (by simp; omega) (fun j e => (h.lt j e).1)⟩
  rw [ints_append, List.length_append]
  exact hown

/-- A short valid list. -/
def IntsC (B g : Nat) (a : Option Addr) (len cap : Nat) (m : Nat) (w : World) (e : Ending) (w' : World) : Prop :=
  ∃ (v : Value) (l : List Int), l.length ≤ 24 ∧ (∀ x ∈ l, -100000 ≤ x ∧ x ≤ 100000) ∧ e = .returned v ∧ w'.ownsRow w.heap.size 3 1 v l.length (ints l) ∧ Cur B g a len cap (m + 200) w' ∧ But g w w'

set_option maxRecDepth 100000 in
set_option maxHeartbeats 4000000 in
theorem ints_any (B g : Nat) (a : Option Addr) (len cap : Nat) (m : Nat) (w : World) (h : Cur B g a len cap m w) (hm : m ≤ 900000) :
    Calls Try.prog 162 #[.pointer (some ⟨g, 0, none⟩)] w (IntsC B g a len cap m w) := by
  have H := Lib.hid h
  have hgl := h.lt
  clear h
  go_enter Try.func162, Try.ntmps162
  go_wp2_with fail
  refine (pick_any B g a len cap m 9 _ (H.out.alloc _) (by omega) (by omega)).mono ?_
  rintro e w1 ⟨n, hn0, hn1, rfl, hc, hb⟩
  obtain ⟨n, rfl⟩ : ∃ k : Nat, n = k := ⟨n.toNat, by omega⟩
  have hn : n ≤ 8 := by omega
  have HC1 := Lib.hid hc
  have HB1 := Lib.hid ((But.alloc g w (.cells #[] 3)).trans hb)
  have HO1 : Hid (w1.ownsRow w.heap.size 3 1 (.slice (some ⟨w.heap.size, 0, none⟩) 0 0) ([] : List Int).length (ints [])) := Lib.hid (own_but (World.ownsRow_made w #[] 0 (Nat.le_refl _) (by decide) rfl) hb hgl)
  clear hc hb hn0 hn1 H
  go_wp2_with fail
  refine (one_any B g a len cap _ 6 _ HC1.out (by omega) (by omega)).mono ?_
  rintro e w2 ⟨b, rfl, hc, hb⟩
  have HC2 := Lib.hid hc
  have HB2 := Lib.hid (HB1.out.trans hb)
  have HO2 := Lib.hid (own_but HO1.out hb hgl)
  clear hc hb HC1 HB1 HO1
  cases b
  · go_wp2_with fail
    go_loopw [3, 4] (fun v n wr => ∃ (k : Nat) (L : List Int), n = .int .i64 k ∧ k + L.length ≤ 24 ∧ (∀ x ∈ L, -100000 ≤ x ∧ x ≤ 100000) ∧ wr.ownsRow w.heap.size 3 1 v L.length (ints L) ∧ Cur B g a len cap (m + 8 + 4 * L.length) wr ∧ But g w wr) (fun _ n _ => (intOf n).toNat)
    case atStart => exact ⟨n, [], rfl, by simp; omega, by simp, HO2.out, HC2.out.more (by omega), HB2.out⟩
    case round =>
      obtain ⟨k, L, rfl, hkL, hall, hrow, hcur, hb⟩ := hrel
      have HALL := Lib.hid hall
      have HROW := Lib.hid hrow
      have HCUR := Lib.hid hcur
      have HB := Lib.hid hb
      clear hall hrow hcur hb HO2 HC2 HB2
      by_cases hk : 0 < k
      · have hk1 : ((k : Int) - 1) = ((k - 1 : Nat) : Int) := by omega
        go_wp2_with fail
        refine (one_any B g a len cap _ 8 _ HCUR.out (by omega) (by omega)).mono ?_
        rintro e w4 ⟨b, rfl, hc, hb⟩
        have HC4 := Lib.hid hc
        have HB4 := Lib.hid (HB.out.trans hb)
        have HO4 := Lib.hid (own_but HROW.out hb hgl)
        clear hc hb HROW HCUR HB
        cases b
        · go_wp2_with fail
          refine (pick_any B g a len cap _ 7 _ HC4.out (by omega) (by omega)).mono ?_
          rintro e w5 ⟨x, hx0, hx1, rfl, hc, hb⟩
          have hx : -100000 ≤ x ∧ x ≤ 100000 := by omega
          have HC5 := Lib.hid hc
          have HB5 := Lib.hid (HB4.out.trans hb)
          have hs5 := HB5.out.size
          obtain ⟨v', w6, hrun, hown, hbel⟩ := appendInt w.heap.size _ L x w5 (own_but HO4.out hb hgl) hs5 (by omega)
          have HO6 := Lib.hid hown
          have HC6 := Lib.hid (HC5.out.keep (hbel.mono (show g + 1 ≤ w.heap.size by omega)))
          have HB6 := Lib.hid (HB5.out.then_below hbel)
          have HA6 : Hid (∀ y ∈ L ++ [x], -100000 ≤ y ∧ y ≤ 100000) := Lib.hid (fun y hy => by
            rcases List.mem_append.1 hy with h | h
            · exact HALL.out y h
            · rw [List.mem_singleton.1 h]; exact hx)
          clear hc hb hown hbel HC4 HB4 HO4 HC5 HB5 hx0 hx1 HALL hx
          go_wp2_with fail
          go_roundw
          case rel => exact ⟨k - 1, L ++ [x], rfl, by simp; omega, HA6.out, HO6.out, HC6.out.more (by simp; omega), HB6.out⟩
          case measure => simp [intOf]; omega
        · go_wp2_with fail
          refine (among_lit B g a len cap _ [100000, -100000, 999, -5] 4 _ _ rfl rfl _ HC4.out (by omega) (by decide) (by decide)).mono ?_
          rintro e w5 ⟨y, hy, rfl, hc, hb⟩
          obtain ⟨x, hz, rfl⟩ := List.mem_map.1 hy
          have hx : -100000 ≤ x ∧ x ≤ 100000 := by simp only [List.mem_cons, List.not_mem_nil, or_false] at hz; omega
          have HC5 := Lib.hid hc
          have HB5 := Lib.hid (HB4.out.trans hb)
          have hs5 := HB5.out.size
          obtain ⟨v', w6, hrun, hown, hbel⟩ := appendInt w.heap.size _ L x w5 (own_but HO4.out hb hgl) hs5 (by omega)
          have HO6 := Lib.hid hown
          have HC6 := Lib.hid (HC5.out.keep (hbel.mono (show g + 1 ≤ w.heap.size by omega)))
          have HB6 := Lib.hid (HB5.out.then_below hbel)
          have HA6 : Hid (∀ y ∈ L ++ [x], -100000 ≤ y ∧ y ≤ 100000) := Lib.hid (fun y hy => by
            rcases List.mem_append.1 hy with h | h
            · exact HALL.out y h
            · rw [List.mem_singleton.1 h]; exact hx)
          clear hc hb hown hbel HC4 HB4 HO4 HC5 HB5 hy hz HALL hx
          go_wp2_with fail
          go_roundw
          case rel => exact ⟨k - 1, L ++ [x], rfl, by simp; omega, HA6.out, HO6.out, HC6.out.more (by simp; omega), HB6.out⟩
          case measure => simp [intOf]; omega
      · obtain rfl : k = 0 := by omega
        have HQ : Hid (∀ v, wr.ownsRow w.heap.size 3 1 v L.length (ints L) → IntsC B g a len cap m w (.returned v) wr) := Lib.hid (fun v hv => ⟨v, L, by omega, HALL.out, rfl, hv, HCUR.out.more (by omega), HB.out⟩)
        go_wp2_with fail
        go_ret
        exact HQ.out _ HROW.out
  · go_wp2_with fail
    refine (pick_any B g a len cap _ 24 _ HC2.out (by omega) (by omega)).mono ?_
    rintro e w3 ⟨n2, hn0, hn1, rfl, hc, hb⟩
    obtain ⟨n2, rfl⟩ : ∃ k : Nat, n2 = k := ⟨n2.toNat, by omega⟩
    have hn2 : n2 ≤ 24 := by omega
    have HC3 := Lib.hid hc
    have HB3 := Lib.hid (HB2.out.trans hb)
    have HO3 := Lib.hid (own_but HO2.out hb hgl)
    clear hc hb HC2 HB2 HO2 hn0 hn1
    go_wp2_with fail
    go_loopw [3, 4] (fun v n wr => ∃ (k : Nat) (L : List Int), n = .int .i64 k ∧ k + L.length ≤ 24 ∧ (∀ x ∈ L, -100000 ≤ x ∧ x ≤ 100000) ∧ wr.ownsRow w.heap.size 3 1 v L.length (ints L) ∧ Cur B g a len cap (m + 8 + 4 * L.length) wr ∧ But g w wr) (fun _ n _ => (intOf n).toNat)
    case atStart => exact ⟨n2, [], rfl, by simp; omega, by simp, HO3.out, HC3.out.more (by omega), HB3.out⟩
    case round =>
      obtain ⟨k, L, rfl, hkL, hall, hrow, hcur, hb⟩ := hrel
      have HALL := Lib.hid hall
      have HROW := Lib.hid hrow
      have HCUR := Lib.hid hcur
      have HB := Lib.hid hb
      clear hall hrow hcur hb HO3 HC3 HB3
      by_cases hk : 0 < k
      · have hk1 : ((k : Int) - 1) = ((k - 1 : Nat) : Int) := by omega
        go_wp2_with fail
        refine (one_any B g a len cap _ 8 _ HCUR.out (by omega) (by omega)).mono ?_
        rintro e w4 ⟨b, rfl, hc, hb⟩
        have HC4 := Lib.hid hc
        have HB4 := Lib.hid (HB.out.trans hb)
        have HO4 := Lib.hid (own_but HROW.out hb hgl)
        clear hc hb HROW HCUR HB
        cases b
        · go_wp2_with fail
          refine (pick_any B g a len cap _ 7 _ HC4.out (by omega) (by omega)).mono ?_
          rintro e w5 ⟨x, hx0, hx1, rfl, hc, hb⟩
          have hx : -100000 ≤ x ∧ x ≤ 100000 := by omega
          have HC5 := Lib.hid hc
          have HB5 := Lib.hid (HB4.out.trans hb)
          have hs5 := HB5.out.size
          obtain ⟨v', w6, hrun, hown, hbel⟩ := appendInt w.heap.size _ L x w5 (own_but HO4.out hb hgl) hs5 (by omega)
          have HO6 := Lib.hid hown
          have HC6 := Lib.hid (HC5.out.keep (hbel.mono (show g + 1 ≤ w.heap.size by omega)))
          have HB6 := Lib.hid (HB5.out.then_below hbel)
          have HA6 : Hid (∀ y ∈ L ++ [x], -100000 ≤ y ∧ y ≤ 100000) := Lib.hid (fun y hy => by
            rcases List.mem_append.1 hy with h | h
            · exact HALL.out y h
            · rw [List.mem_singleton.1 h]; exact hx)
          clear hc hb hown hbel HC4 HB4 HO4 HC5 HB5 hx0 hx1 HALL hx
          go_wp2_with fail
          go_roundw
          case rel => exact ⟨k - 1, L ++ [x], rfl, by simp; omega, HA6.out, HO6.out, HC6.out.more (by simp; omega), HB6.out⟩
          case measure => simp [intOf]; omega
        · go_wp2_with fail
          refine (among_lit B g a len cap _ [100000, -100000, 999, -5] 4 _ _ rfl rfl _ HC4.out (by omega) (by decide) (by decide)).mono ?_
          rintro e w5 ⟨y, hy, rfl, hc, hb⟩
          obtain ⟨x, hz, rfl⟩ := List.mem_map.1 hy
          have hx : -100000 ≤ x ∧ x ≤ 100000 := by simp only [List.mem_cons, List.not_mem_nil, or_false] at hz; omega
          have HC5 := Lib.hid hc
          have HB5 := Lib.hid (HB4.out.trans hb)
          have hs5 := HB5.out.size
          obtain ⟨v', w6, hrun, hown, hbel⟩ := appendInt w.heap.size _ L x w5 (own_but HO4.out hb hgl) hs5 (by omega)
          have HO6 := Lib.hid hown
          have HC6 := Lib.hid (HC5.out.keep (hbel.mono (show g + 1 ≤ w.heap.size by omega)))
          have HB6 := Lib.hid (HB5.out.then_below hbel)
          have HA6 : Hid (∀ y ∈ L ++ [x], -100000 ≤ y ∧ y ≤ 100000) := Lib.hid (fun y hy => by
            rcases List.mem_append.1 hy with h | h
            · exact HALL.out y h
            · rw [List.mem_singleton.1 h]; exact hx)
          clear hc hb hown hbel HC4 HB4 HO4 HC5 HB5 hy hz HALL hx
          go_wp2_with fail
          go_roundw
          case rel => exact ⟨k - 1, L ++ [x], rfl, by simp; omega, HA6.out, HO6.out, HC6.out.more (by simp; omega), HB6.out⟩
          case measure => simp [intOf]; omega
      · obtain rfl : k = 0 := by omega
        have HQ : Hid (∀ v, wr.ownsRow w.heap.size 3 1 v L.length (ints L) → IntsC B g a len cap m w (.returned v) wr) := Lib.hid (fun v hv => ⟨v, L, by omega, HALL.out, rfl, hv, HCUR.out.more (by omega), HB.out⟩)
        go_wp2_with fail
        go_ret
        exact HQ.out _ HROW.out

end Go.Proofs.Ytagibgphegoagaa
end

section
/- The model's l2Sorted, its list the caller's own: a part of it can be appended to. -/
namespace Go.Proofs.Ytagibgphegoagaa
open Go.RowKit P El
set_option linter.unusedVariables false

/-- Block g is a row of cap numbers. -/
def Blk0 (W : World) (g cap : Nat) : Prop := ∃ cur, W.heap[g]? = some (.cells cur 3 (0, 0)) ∧ cap ≤ maxLen ∧ cur.size = cap * 1
theorem Blk0.set {W : World} {g cap : Nat} (h : Blk0 W g cap) (k : Nat) (u : Value) : Blk0 (W.setCell ⟨g, k, none⟩ u) g cap := by
  obtain ⟨cur, h1, h2, h3⟩ := h
  exact ⟨cur.setIfInBounds k u, by simp [World.setCell, Array.getElem?_modify, h1], h2, by simpa using h3⟩
theorem Blk0.part {W : World} {base g cap n : Nat} {L : List Int} (h : Blk0 W g cap) (hr : CellRow W g (ints L)) (hg : base ≤ g) (hn : n ≤ L.length) (hc : L.length ≤ cap) : Held base W (.slice (some ⟨g, 0, none⟩) n cap) (L.take n) := by
  obtain ⟨cur, h1, h2, h3⟩ := h
  have hl : (L.take n).length = n := by rw [List.length_take]; omega
  refine ⟨⟨by rw [ints_length]; omega, .inr ⟨g, cap, cur, by rw [hl], hg, h1, by omega, h2, h3, ?_⟩⟩, g, cap, by rw [hl]⟩
  rw [hl, Nat.mul_one]
  apply List.ext_getElem?
  intro j
  by_cases hj : j < n
  · rw [List.getElem?_take_of_lt hj, Array.getElem?_toList]
    have hx : (ints (L.take n))[j]? = (ints L)[j]? := by unfold ints; rw [List.map_take, List.getElem?_take_of_lt hj]
    rw [hx]
    have hj2 : j < (ints L).length := by rw [ints_length]; omega
    rw [List.getElem?_eq_getElem hj2]
    have := (hr.2 j _ (List.getElem?_eq_getElem hj2)).1
    rw [cell_of_row W g j _ _ (0, 0) h1] at this
    exact this
  · rw [List.getElem?_eq_none (by rw [List.length_take]; omega), List.getElem?_eq_none (by rw [ints_length, hl]; omega)]
theorem Blk0.of_held {base g cap : Nat} {W : World} {n : Nat} {L : List Int} (h : Held base W (.slice (some ⟨g, 0, none⟩) n cap) L) : Blk0 W g cap := by
  obtain ⟨⟨_, h1⟩, g', c', e⟩ := h
  rcases h1 with ⟨e2, _⟩ | ⟨g2, c2, cur, e2, _, h3, _, h5, h6, _⟩
  · simp at e2
  · simp at e2
    obtain ⟨rfl, _, rfl⟩ := e2
    exact ⟨cur, h3, h5, h6⟩

/-- The element back in its hole: the insertion done. -/
theorem ins_holeH {M H : List Int} {i k c m c' m' : Nat} (hi : i < M.length) (h : sh (M.getD i 0) 1 M i c m = (H, k, c', m')) : (insAt 1 i (M, c, m)).1 = H.set k (M.getD i 0) := by
  rw [insAt_of (S := (M, c, m)) h]
  split
  · rename_i e
    have := sh_hole (M.getD i 0) 1 M i c m hi (by rw [h]; exact e)
    rw [h] at this
    simp only at this ⊢
    rw [this, e, set_getD hi]
  · rfl

/-- The outer loop's word. -/
structure SrtOH (base g cap : Nat) (l : List Int) (i : Nat) (M : List Int) (w W : World) : Prop where
  run : ∃ c m, (insN 1 i (l.length - i) (M, c, m)).1 = srt l
  len : M.length = l.length
  le : i ≤ 128
  row : CellRow W g (ints M)
  b : Below base w W
  blk : Blk0 W g cap
/-- The inner loop's word: H, the list with its hole at k. -/
structure SrtKH (base g cap : Nat) (x : Int) (i : Nat) (M : List Int) (c m k : Nat) (H : List Int) (w W : World) : Prop where
  run : ∃ c' m', sh x 1 H k c' m' = sh x 1 M i c m
  len : H.length = M.length
  le : k ≤ i
  row : CellRow W g (ints (H.set k x))
  b : Below base w W
  blk : Blk0 W g cap

set_option maxRecDepth 100000 in
set_option maxHeartbeats 4000000 in
theorem l2SortedH_big (b o cc : Nat) (l : List Int) (w : World) (hv : FlatAt w (.slice (some ⟨b, o, none⟩) l.length cc) l.length (ints l)) (h64 : l.length ≤ 128) :
    Calls Try.prog 121 #[.slice (some ⟨b, o, none⟩) l.length cc] w (fun e w' => ∃ g cap, e = .returned (.slice (some ⟨g, 0, none⟩) l.length cap) ∧ l.length ≤ cap ∧ w.heap.size ≤ g ∧ CellRow w' g (ints (srt l)) ∧ Blk0 w' g cap ∧ Below w.heap.size w w') := by
  have HOWN := Lib.hid (l1OwnH_any b o cc l w hv (by omega))
  clear hv
  go_enter Try.func121, Try.ntmps121
  go_wp2_with fail
  refine (HOWN.out).mono ?_
  rintro e w2 ⟨g, cap, rfl, hheld, hb2⟩
  have hblk := Blk0.of_held hheld
  obtain ⟨_, _, ee, hg, hcap, hrow⟩ := hheld.row
  simp at ee
  obtain ⟨rfl, rfl⟩ := ee
  have HS0 : Hid (SrtOH w.heap.size g cap l 1 l w w2) := Lib.hid ⟨⟨0, 0, rfl⟩, rfl, by omega, hrow, hb2, hblk⟩
  have HG := Lib.hid hg
  clear hb2 hrow HOWN hg hheld hblk
  go_wp2_with fail
  go_loopw [4, 5, 6] (fun iv _ _ wr => ∃ (i : Nat) (M : List Int), 1 ≤ i ∧ iv = .int .i64 i ∧ SrtOH w.heap.size g cap l i M w wr) (fun iv _ _ _ => l.length - (intOf iv).toNat)
  case atStart => exact ⟨1, l, Nat.le_refl _, rfl, HS0.out⟩
  case round =>
    obtain ⟨i, M, hi1, rfl, ho⟩ := hrel
    have HO := Lib.hid ho
    have hi64 := ho.le
    have hlM := ho.len
    clear ho HS0
    by_cases hlt : i < l.length
    · obtain ⟨x, hx⟩ : ∃ x, x = M.getD i 0 := ⟨_, rfl⟩
      obtain ⟨c, m, hrun⟩ := HO.out.run
      have HRUN : Hid ((insN 1 (i + 1) (l.length - (i + 1)) (insAt 1 i (M, c, m))).1 = srt l) := Lib.hid (by
        rw [show l.length - i = l.length - (i + 1) + 1 by omega, insN_succ] at hrun; exact hrun)
      have HK0 : Hid (SrtKH w.heap.size g cap x i M c m i M w wr) := Lib.hid ⟨⟨c, m, rfl⟩, rfl, Nat.le_refl _, by rw [hx, set_getD (by omega)]; exact HO.out.row, HO.out.b, HO.out.blk⟩
      have HX := Lib.hid hx
      have HLM := Lib.hid hlM
      clear hx hlM hrun
      go_wp2_with fail
      go_loopw [5, 6] (fun kv _ ws => ∃ (k : Nat) (H : List Int), kv = .int .i64 k ∧ SrtKH w.heap.size g cap x i M c m k H w ws) (fun kv _ _ => (intOf kv).toNat)
      case atStart => exact ⟨i, M, rfl, HK0.out⟩
      case round =>
        obtain ⟨k, H, rfl, hk⟩ := hrel
        have HK := Lib.hid hk
        have hki := hk.le
        clear hk HK0
        -- what follows when the place is found
        have HEND : Hid (∀ n c1, sh x 1 M i c m = (H, k, c1) → SrtOH w.heap.size g cap l (i + 1) (H.set k x) w (wr.drewN n)) := Lib.hid (fun n c1 hr => by
          obtain ⟨c1, m1⟩ := c1
          have hh := ins_holeH (M := M) (H := H) (i := i) (k := k) (c := c) (m := m) (c' := c1) (m' := m1) (by have := HLM.out; omega) (by first | exact hr | (rw [← HX.out]; exact hr))
          rw [← HX.out] at hh
          refine ⟨?_, by have h1 := HK.out.len; have h2 := HLM.out; rw [List.length_set]; omega, by omega, HK.out.row.same rfl (Nat.le_refl _), HK.out.b.trans ⟨rfl, rfl, rfl, Nat.le_refl _, fun _ _ => rfl⟩, HK.out.blk⟩
          have hr2 := HRUN.out
          rw [← hh]
          generalize insAt 1 i (M, c, m) = T at *
          obtain ⟨N, c2, m2⟩ := T
          exact ⟨c2, m2, hr2⟩)
        cases k with
        | zero =>
          have HE : Hid (∀ n, SrtOH w.heap.size g cap l (i + 1) (H.set 0 x) w (wr.drewN n)) := Lib.hid (fun n => by
            obtain ⟨c', m', hr⟩ := HK.out.run
            rw [sh_end c' m' (by omega)] at hr
            exact HEND.out n _ hr.symm)
          have hg0 : decide ((0 : Int) < 0) = false := by decide
          clear HEND
          go_wp2_with fail
          go_quiet (fail)
          go_wp2_with fail
          go_roundw
          case rel => exact ⟨i + 1, _, by omega, by go_num, HE.out nq⟩
          case measure => simp [intOf]; omega
        | succ j =>
          obtain ⟨y, hy⟩ : ∃ y, y = H.getD j 0 := ⟨_, rfl⟩
          have hjH : j + 1 < H.length := by rw [HK.out.len, HLM.out]; omega
          obtain ⟨hcj, hfj⟩ := HK.out.row.2 j _ (ints_at (at_getD (by rw [List.length_set]; omega)))
          obtain ⟨hck, hfk⟩ := HK.out.row.2 (j + 1) _ (ints_at (at_getD (by rw [List.length_set]; exact hjH)))
          rw [getD_set_other (by omega), ← hy] at hcj
          rw [getD_set_same hjH] at hck
          have hwk : IntKind.i64.wrap (((j + 1 : Nat) : Int) - 1) = (j : Int) := by rw [IntKind.wrap_i64]; omega
          obtain ⟨k1, hk1⟩ : ∃ k1, k1 = j + 1 := ⟨_, rfl⟩
          rw [← hk1] at hwk hck hfk HK HEND hki hjH ⊢
          have HK1 := Lib.hid hk1
          have hg0 : decide ((0 : Int) < (k1 : Int)) = true := decide_eq_true (by omega)
          have hkpos : (0 : Int) < (k1 : Int) := by omega
          have hkpos' : 0 < k1 := by omega
          have hjz : (j : Int) < l.length := by omega
          have hk1z : (k1 : Int) < l.length := by omega
          have HY := Lib.hid hy
          have hne1 : ¬ j = k1 := by omega
          have hne2 : ¬ k1 = j := by omega
          clear hy hk1
          by_cases hxy : x < y
          · have hgt : decide (x < y) = true := decide_eq_true hxy
            have HN : Hid (∀ n, SrtKH w.heap.size g cap x i M c m j (H.set k1 y) w (((wr.drewN n).setCell ⟨g, j, none⟩ (.int .i64 x)).setCell ⟨g, k1, none⟩ (.int .i64 y))) := Lib.hid (fun n => by
              obtain ⟨c', m', hr⟩ := HK.out.run
              have hkk := HK1.out
              have hjk : k1 - 1 = j := by omega
              have hrow : CellRow (((wr.drewN n).setCell ⟨g, j, none⟩ (.int .i64 x)).setCell ⟨g, k1, none⟩ (.int .i64 y)) g (ints (((H.set k1 x).set j x).set k1 y)) := by
                rw [← ints_set, ← ints_set]
                exact ((HK.out.row.same (w' := wr.drewN n) rfl (Nat.le_refl _)).set j _ (by rw [ints_length, List.length_set]; omega)).set k1 _ (by rw [List.length_set, ints_length, List.length_set]; exact hjH)
              have e : ((H.set k1 x).set j x).set k1 y = (H.set k1 y).set j x := by
                rw [List.set_comm x y (by omega), List.set_set]
              rw [e] at hrow
              refine ⟨⟨c' + 1, m' + 1, ?_⟩, by rw [List.length_set]; exact HK.out.len, by omega, hrow, ((HK.out.b.trans ⟨rfl, rfl, rfl, Nat.le_refl _, fun _ _ => rfl⟩ : Below w.heap.size w (wr.drewN n)).setCell (p := ⟨g, j, none⟩) HG.out _).setCell (p := ⟨g, k1, none⟩) HG.out _, (Blk0.set (W := wr.drewN n) HK.out.blk _ _).set _ _⟩
              rw [← hr, sh_go c' m' (by omega) (by omega) (by rw [hjk, ← HY.out]; exact hxy), hjk, ← HY.out])
            clear HEND
            go_wp2_with fail
            go_quiet (fail)
            go_wp2_with fail
            go_roundw
            case rel => exact ⟨j, _, rfl, HN.out nq⟩
            case measure => have := HK1.out; simp [intOf]; omega
          · have hgt : decide (x < y) = false := decide_eq_false hxy
            have HE : Hid (∀ n, SrtOH w.heap.size g cap l (i + 1) (H.set k1 x) w (wr.drewN n)) := Lib.hid (fun n => by
              obtain ⟨c', m', hr⟩ := HK.out.run
              have hkk := HK1.out
              have hjk : k1 - 1 = j := by omega
              rw [sh_stop c' m' (by omega) (by omega) (by rw [hjk, ← HY.out]; exact hxy)] at hr
              exact HEND.out n _ hr.symm)
            clear HEND
            go_wp2_with fail
            go_quiet (fail)
            go_wp2_with fail
            go_roundw
            case rel => exact ⟨i + 1, _, by omega, by go_num, HE.out nq⟩
            case measure => simp [intOf]; omega
    · have HRES : Hid (CellRow wr g (ints (srt l)) ∧ Blk0 wr g cap ∧ Below w.heap.size w wr) := Lib.hid (by
        obtain ⟨c, m, hr⟩ := HO.out.run
        rw [show l.length - i = 0 by omega] at hr
        have hr2 : M = srt l := hr
        exact ⟨by rw [← hr2]; exact HO.out.row, HO.out.blk, HO.out.b⟩)
      clear hlM
      go_wp2_with fail
      go_ret
      exact ⟨g, cap, rfl, hcap, HG.out, HRES.out⟩

end Go.Proofs.Ytagibgphegoagaa
end

section
/- Four results. -/
namespace Go.Proofs.Ytagibgphegoagaa
open Go.RowKit
theorem results_tmp4 {fn : Func} {t u v x : Tmp} (h : fn.results = #[.tmp t, .tmp u, .tmp v, .tmp x]) (tmps : Array Value) (P : Program) (w : World) :
    (results fn tmps).run P w = .ok (.tuple #[tmps.getD t undef, tmps.getD u undef, tmps.getD v undef, tmps.getD x undef]) w := by
  simp [results, h]
end Go.Proofs.Ytagibgphegoagaa
end

section
/- The laws' marks of a list of no length, by contracts. -/
namespace Go.Proofs.Ytagibgphegoagaa
open Go.RowKit
set_option linter.unusedVariables false

theorem flat0 (a : Option Addr) (c : Nat) (w : World) : FlatAt w (.slice a 0 c) ([] : List Int).length (ints []) := ⟨a, c, rfl, Nat.zero_le _, fun j u h => by simp [ints] at h⟩
theorem mark0_any (a : Option Addr) (c : Nat) (w : World) :
    Calls Try.prog 58 #[.slice a 0 c, .int .i64 1] w fun e w' => e = .returned (.int .i64 1) ∧ Below w.heap.size w w' := by
  go_enter Try.func58, Try.ntmps58
  go_wp2
  go_loopw [1, 5] (fun q i wr => i = .int .i64 0 ∧ q = .int .i64 1 ∧ wr = w) (fun _ _ _ => 0)
  case atStart => exact ⟨rfl, rfl, rfl⟩
  case round =>
    obtain ⟨rfl, rfl, rfl⟩ := hrel
    go_wp2
    go_ret
    exact ⟨rfl, Below.refl _ _⟩
theorem held0_any (a : Option Addr) (c : Nat) (w : World) :
    Calls Try.prog 59 #[.slice a 0 c, .int .i64 1] w fun e w' => e = .returned (.int .i64 1) ∧ Below w.heap.size w w' := by
  go_enter Try.func59, Try.ntmps59
  go_wp2
  go_loopw [1, 5] (fun q i wr => i = .int .i64 0 ∧ q = .int .i64 1 ∧ wr = w) (fun _ _ _ => 0)
  case atStart => exact ⟨rfl, rfl, rfl⟩
  case round =>
    obtain ⟨rfl, rfl, rfl⟩ := hrel
    go_wp2
    go_ret
    exact ⟨rfl, Below.refl _ _⟩

end Go.Proofs.Ytagibgphegoagaa
end

section
/- The stable arrangement of indices, of any number of them. -/
namespace Go.Proofs.Ytagibgphegoagaa
open Go.RowKit Go.Sort Go.Lib StC P

theorem ins0_any (a : Option Addr) (c : Nat) (fv : Value) (w : World) :
    Calls Try.prog 195 #[.slice a 0 c, .int .i64 0, .int .i64 0, fv] w fun e w' => e = .returned (.tuple #[]) ∧ w' = w := by
  go_enter Try.func195, Try.ntmps195
  go_wp2_with fail
  go_loopw [8] (fun i wr => i = .int .i64 1 ∧ wr = w) (fun _ _ => 0)
  case atStart => exact ⟨rfl, rfl⟩
  case round =>
    obtain ⟨rfl, rfl⟩ := hrel
    go_wp2_with fail
    go_end0
    first | exact ⟨rfl, rfl⟩ | exact ⟨rfl, by trivial⟩

theorem sort0_any (a : Option Addr) (c : Nat) (fv : Value) (w : World) :
    Calls Try.prog 166 #[.slice a 0 c, fv] w fun e w' => e = .returned (.tuple #[]) ∧ w' = w := by
  have HI := Lib.hid (fun W => ins0_any a c fv W)
  have HS : Hid (∀ W, Calls Try.prog 185 #[.slice a 0 c, .int .i64 0, fv] W fun e w' => e = .returned (.tuple #[]) ∧ w' = W) := Lib.hid (fun W => by
    go_enter Try.func185, Try.ntmps185
    go_wp2_with fail
    go_loopw [7, 8] (fun i j wr => i = .int .i64 0 ∧ j = .int .i64 20 ∧ wr = W) (fun _ _ _ => 0)
    case atStart => exact ⟨rfl, rfl, rfl⟩
    case round =>
      obtain ⟨rfl, rfl, rfl⟩ := hrel
      go_wp2_with fail
      refine (HI.out _).mono ?_
      rintro e w1 ⟨rfl, rfl⟩
      go_wp2_with fail
      go_loopw [6, 7, 8] (fun i j k wr => i = .int .i64 20 ∧ wr = w1) (fun _ _ _ _ => 0)
      case atStart => exact ⟨rfl, rfl⟩
      case round =>
        obtain ⟨rfl, rfl⟩ := hrel
        go_wp2_with fail
        go_end0
        first | exact ⟨rfl, rfl⟩ | exact ⟨rfl, by trivial⟩)
  go_enter Try.func166, Try.ntmps166
  go_wp2_with fail
  refine (HS.out _).mono ?_
  rintro e w1 ⟨rfl, rfl⟩
  go_wp2_with fail
  go_end0
  first | exact ⟨rfl, rfl⟩ | exact ⟨rfl, by trivial⟩

theorem arrange0_any (b c : Nat) (fv : Value) (w : World) (_hb : b < w.heap.size) :
    Calls Try.prog 134 #[.slice (some ⟨b, 0, none⟩) 0 c, fv] w (RowI [] w) := by
  have HCL := Lib.hid (cloneInts_any b 0 c [] w ⟨_, c, rfl, Nat.zero_le _, fun j u hu => by simp [ints] at hu⟩ (by simp))
  go_enter Try.func134, Try.ntmps134
  go_wp2_with fail
  refine (HCL.out).mono ?_
  rintro e w1 ⟨g, cap, rfl, hcp, hg, hrow, hb⟩
  have HRES : Hid (RowI [] w (.returned (.slice (some ⟨g, 0, none⟩) 0 cap)) w1) := Lib.hid ⟨g, cap, rfl, hcp, hg, hrow, hb⟩
  clear hcp hg hrow hb HCL
  go_wp2_with fail
  refine (sort0_any _ _ _ _).mono ?_
  rintro e w2 ⟨rfl, rfl⟩
  go_wp2_with fail
  go_ret
  exact HRES.out

theorem arrangeN_any {NN : Nat} (N : Nat) (hN : N = NN + 1) (cf : Fin (NN + 1) → Fin (NN + 1) → Int) (hO : SWO (ltOf cf)) (gf : Nat) (cb : Array Value) (eg : ∀ args w, (callFunc gf args).run Try.prog w = .ok (.enter gf args) w) (b c : Nat) (w : World) (hr : CellRow w b (ints (iota N))) (hn : N ≤ 1048576)
    (hC : ∀ (W : World), Below w.heap.size w W → ∀ x y : Fin (NN + 1), Calls Try.prog gf (#[.int .i64 (x.val : Int), .int .i64 (y.val : Int)] ++ cb) W fun e w' => e = .returned (.int .i64 (cf x y)) ∧ ∃ q os', w' = grow (W.drewN q) os') (hcap : N ≤ c) :
    Calls Try.prog 134 #[.slice (some ⟨b, 0, none⟩) N c, .func (.func gf) #[] cb] w fun e w' =>
      ∃ (g cg : Nat) (M : List (Fin (NN + 1))), e = .returned (.slice (some ⟨g, 0, none⟩) N cg) ∧ N ≤ cg ∧ w.heap.size ≤ g ∧ CellRow w' g (ints (valsF M)) ∧ St (ltOf cf) (fins NN) M ∧ Below w.heap.size w w' := by
  subst hN
  exact arrange_any cf hO gf cb eg b c w hr hn hC hcap

end Go.Proofs.Ytagibgphegoagaa
end

section
/- slices.Values, Collect and Sorted at lists of numbers, by contracts. -/
namespace Go.Proofs.Ytagibgphegoagaa
open Go.RowKit Go.Shelf
set_option linter.unusedVariables false

attribute [local go_sem] Oper.semAt_some
attribute [local go_sem ↓ high] builtin_append_held

set_option maxRecDepth 100000 in
set_option maxHeartbeats 2000000 in
theorem vals_steps (F : Fence) (n : Nat) (hf : F.fn 149) (hro : F.round = none) (hn : 1 ≤ n) (w : World) (B1 bp o c : Nat) (a : Option Addr) (hB1 : B1 < w.heap.size) (hbp : bp < w.heap.size) (l : List Int) (hl : l.length ≤ 1048576)
    (hc1 : w.cell? ⟨B1, 0, none⟩ = some (.slice a l.length c)) (hcp : ∀ (j : Nat) x, l[j]? = some x → a = some ⟨bp, o, none⟩ ∧ w.cell? ⟨bp, o + j, none⟩ = some (.int .i64 x)) :
    StepsSeq F n Try.prog 149 #[.pointer (some ⟨B1, 0, none⟩)] (fun x : Int => #[.int .i64 x]) (KeepTwo B1 bp) (fun pre x => pre = l.take pre.length ∧ l[pre.length]? = some x) (fun xs => xs = l) w := by
  intro ln J W hW hJ hY h0
  have hd1 : W.cell? ⟨B1, 0, none⟩ = some (.slice a l.length c) := (hW.cell (p := ⟨B1, 0, none⟩) hB1).trans hc1
  have HCP : Hid (∀ (j : Nat) x, l[j]? = some x → a = some ⟨bp, o, none⟩ ∧ W.cell? ⟨bp, o + j, none⟩ = some (.int .i64 x)) := Lib.hid (fun j x hj => ⟨(hcp j x hj).1, (hW.cell (p := ⟨bp, o + j, none⟩) hbp).trans (hcp j x hj).2⟩)
  have HY := Lib.hid hY
  clear hcp hY hc1 hW hJ
  refine callsIn_of_wp Try.func149 rfl hf ?_ hro
  simp only [Try.ntmps149, List.size_toArray, List.length_cons, List.length_nil, Nat.reduceAdd, Nat.reduceSub, Array.replicate_succ, Array.replicate_zero, List.push_toArray, List.append_toArray, List.nil_append, List.cons_append]
  gi_wp2
  gi_loopw [4, 7] (fun _ p wr => ∃ k : Nat, p = .int .i64 k ∧ k ≤ l.length ∧ KeepTwo B1 bp W wr ∧ J (l.take k) wr) (fun _ p _ => l.length - (intOf p).toNat)
  case atStart => exact ⟨0, rfl, Nat.zero_le _, ⟨rfl, rfl⟩, h0⟩
  case round =>
    obtain ⟨k, rfl, hk, hkp, hJs⟩ := hrel
    by_cases hlt : k < l.length
    · obtain ⟨x, hx⟩ : ∃ x, l[k]? = some x := ⟨_, List.getElem?_eq_getElem hlt⟩
      obtain ⟨rfl, hcx0⟩ := HCP.out k x hx
      have hcx : wr.cell? ⟨bp, o + k, none⟩ = some (.int .i64 x) := (World.cell?_of_block (w := W) (a := ⟨bp, o + k, none⟩) hkp.2).trans hcx0
      have hlen : (l.take k).length = k := by rw [List.length_take]; omega
      obtain ⟨fn, tmps, assign, body, hy, hR⟩ := HY.out (l.take k) x wr ⟨by rw [hlen], by rw [hlen]; exact hx⟩ hJs
      have HT : Hid (l.take (k + 1) = l.take k ++ [x]) := Lib.hid (by rw [List.take_add_one, hx]; rfl)
      have HKP := Lib.hid hkp
      have hkz : (k : Int) < l.length := by omega
      clear hx hcx0 hlen hkp
      gi_wp2
      refine hR.mono ?_
      rintro e W3 ⟨rfl, hJ3, hk3⟩
      have HN : Hid (KeepTwo B1 bp W W3 ∧ J (l.take (k + 1)) W3) := Lib.hid ⟨HKP.out.trans hk3, by rw [HT.out]; exact hJ3⟩
      clear hJ3 hk3 hy hR
      gi_wp2
      go_roundw
      case rel => exact ⟨k + 1, by go_num, by omega, HN.out.1, HN.out.2⟩
      case measure => simp [intOf]; omega
    · obtain rfl : k = l.length := by omega
      have HN : Hid (∃ xs, xs = l ∧ J xs wr) := Lib.hid ⟨l, rfl, by rw [List.take_length] at hJs; exact hJs⟩
      clear hJs hkp
      gi_wp2
      go_end0
      exact ⟨⟨_, rfl⟩, HN.out⟩

theorem vals_any (a : Option Addr) (len c : Nat) (w : World) :
    Calls Try.prog 105 #[.slice a len c] w fun e w' => e = .returned (.func (.func 149) #[] #[.pointer (some ⟨w.heap.size, 0, none⟩)]) ∧ w' = w.alloc (.cells #[.slice a len c] 34) := by
  go_enter Try.func105, Try.ntmps105
  go_wp2
  go_ret
  exact ⟨rfl, rfl⟩

/-- 'append(l, n)' of one number, told of every block. -/
theorem appendNil (base : Nat) (v : Value) (L : List Int) (x : Int) (w : World) (h : w.ownsRow base 3 1 v L.length (ints L)) (hb : base ≤ w.heap.size) (hn : L.length ≤ 1048576) :
    ∃ v' w', (heldAppend #[34, 34] 34 #[v, .slice (some ⟨w.heap.size, 0, none⟩) 1 1]).run Try.prog (w.alloc (.cells #[.int .i64 x] 3)) = .ok v' w' ∧
      w'.ownsRow base 3 1 v' (L ++ [x]).length (ints (L ++ [x])) ∧ Below base w w' ∧ (∀ k, k < w.heap.size → v.ownBlock ≠ some k → w'.heap[k]? = w.heap[k]?) ∧ ∃ a' c', v' = .slice a' (L ++ [x]).length c' := by
  obtain ⟨i0, hi, hz0, hz1, hz2⟩ := info_parts infoIntA
  obtain ⟨v', w', hrun, hown, hgrow, _⟩ := run_append_own (P := Try.prog) (w := w.alloc (.cells #[.int .i64 x] 3)) base 34 34 3 i0 (.int .i64 0) 1 8 Try.underlying34 hi hz0 hz1 hz2 rfl (by decide)
    _ L.length (ints L) (World.ownsRow.alloc h _) ⟨w.heap.size, 0, none⟩ 1 1 [.int .i64 x] rfl (cell_one_new w _ _) (by simp [Value.oneCell']) (by unfold maxLen; omega) (by omega) (by simp; omega)
  have hown2 : w'.ownsRow base 3 1 v' (L ++ [x]).length (ints (L ++ [x])) := by
    rw [ints_append, List.length_append]
    exact hown
  refine ⟨v', w', hrun, hown2, ((Below.refl base w).alloc hb _).grown hgrow (by simp; omega) (fun j e => (h.lt j e).1), fun k hk hne => (hgrow.block k (by simp; omega) (fun e => hne e.symm)).trans (Below.heap_alloc w _ k hk), ?_⟩
  rcases hown2.2 with ⟨rfl, hz⟩ | ⟨j, cap, cur, rfl, _⟩
  · simp at hz
  · exact ⟨_, _, rfl⟩

/-- What has been gathered. -/
def SeqV (bs B1 bp : Nat) (w : World) (pre : List Int) (W : World) : Prop :=
  (∃ v, Boxed W bs 34 v ∧ W.ownsRow (bs + 1) 3 1 v pre.length (ints pre) ∧ ∃ a c, v = .slice a pre.length c) ∧ Below bs w W

theorem own_cells {base n : Nat} {w : World} {v : Value} {cs : List Value} (h : w.ownsRow base 3 1 v n cs) {k : Nat} (hk : v.ownBlock = some k) : base ≤ k ∧ ∀ o, w.heap[k]? = some o → o.isCells = true := by
  rcases h.2 with ⟨rfl, _⟩ | ⟨j, cap, cur, rfl, hj, hg, rest⟩
  · simp [Value.ownBlock] at hk
  · obtain rfl : j = k := by simpa [Value.ownBlock] using hk
    exact ⟨hj, fun o ho => by rw [hg] at ho; simp at ho; subst ho; rfl⟩
theorem own_same {base n : Nat} {w w' : World} {v : Value} {cs : List Value} (h : w.ownsRow base 3 1 v n cs) (hb : ∀ k, v.ownBlock = some k → w'.heap[k]? = w.heap[k]?) : w'.ownsRow base 3 1 v n cs := by
  refine ⟨h.1, ?_⟩
  rcases h.2 with hn | ⟨j, cap, cur, rfl, hj, hg, rest⟩
  · exact .inl hn
  · exact .inr ⟨j, cap, cur, rfl, hj, (hb j rfl).trans hg, rest⟩

theorem SeqV.own {bs B1 bp B : Nat} {w : World} (hw : bs ≤ w.heap.size) (hB : bs ≤ B) : OwnFrom B (SeqV bs B1 bp w) := by
  rintro pre W W' row ⟨⟨v, hb, ho, hs⟩, hbe⟩ hg hr
  refine ⟨⟨v, hb.kept hg (fun e => ?_), own_same ho (fun k hk => hg.block k (ho.lt k hk).2 (fun e => ?_)), hs⟩, hbe.grown hg (Nat.le_trans hw hbe.size) (fun k e => Nat.le_trans hB (hr k e).1)⟩
  · obtain ⟨_, o, hoo, hc⟩ := hr bs e.symm
    rw [show W.heap[bs]? = _ from hb] at hoo; cases hoo; cases hc
  · obtain ⟨_, o, hoo, hc⟩ := hr k e.symm
    rw [(own_cells ho hk).2 o hoo] at hc; cases hc

theorem seqv_leave {F : Fence} {n : Nat} {l : List Int} {base : Nat} {w w1 : World} {tmps : Array Value} {D : Nat} {v : Value} (hK : w1.heap[D]? = some (.deferred (some []))) (hD : base ≤ D) (hb : Below base w w1)
    (hH : w1.ownsRow base 3 1 v l.length (ints l)) (h4 : tmps.getD 4 undef = v) :
    LeavesInM F n Try.prog Try.f169 tmps (fun e w' => ∃ v', e = .returned v' ∧ w'.ownsRow base 3 1 v' l.length (ints l) ∧ Below base w w') [{ target := .collected D, args := #[] }] .returning w1 := by
  refine ⟨by simp, .inl ⟨D, _, rfl, run_takeDeferred hK, ?_⟩⟩
  refine ⟨_, results_tmp rfl _ _ _, v, by rw [h4], own_same hH (fun k hk => World.putObj_heap_other (fun e => ?_)), hb.trans ⟨rfl, rfl, rfl, by simp [World.putObj], fun k hk => World.putObj_heap_other (by omega)⟩⟩
  subst e
  have := (own_cells hH hk).2 _ hK
  cases this

set_option maxRecDepth 100000 in
set_option maxHeartbeats 4000000 in
theorem appendSeqI_any (w : World) (B1 bp o c : Nat) (a : Option Addr) (l : List Int) (hl : l.length ≤ 1048576) (hB1 : B1 < w.heap.size) (hbp : bp < w.heap.size)
    (hc1 : w.cell? ⟨B1, 0, none⟩ = some (.slice a l.length c)) (hcp : ∀ (j : Nat) x, l[j]? = some x → a = some ⟨bp, o, none⟩ ∧ w.cell? ⟨bp, o + j, none⟩ = some (.int .i64 x)) :
    Calls Try.prog 169 #[.slice none 0 0, .func (.func 149) #[] #[.pointer (some ⟨B1, 0, none⟩)]] w fun e w' => ∃ v', e = .returned v' ∧ w'.ownsRow w.heap.size 3 1 v' l.length (ints l) ∧ Below w.heap.size w w' := by
  refine (callsIn_wide (n := 5)).1 ?_
  refine callsIn_of_wp_marks Try.func169 rfl trivial ?_ rfl
  simp only [Try.ntmps169, List.size_toArray, List.length_cons, List.length_nil, Nat.reduceAdd, Nat.reduceSub, Array.replicate_succ, Array.replicate_zero, List.push_toArray, List.append_toArray, List.nil_append, List.cons_append]
  gi_wp2
  have bN := Boxed.new w 34 (.slice none 0 0)
  have hal : Below w.heap.size w (w.alloc (.cells #[.slice none 0 0] 34)) := (Below.refl _ _).alloc (Nat.le_refl _) _
  have hszL : (w.alloc (.cells #[.slice none 0 0] 34)).heap.size = w.heap.size + 1 := by simp
  have hO : (w.alloc (.cells #[.slice none 0 0] 34)).ownsRow (w.heap.size + 1) 3 1 (.slice none 0 0) ([] : List Int).length (ints []) := ⟨by simp [ints], .inl ⟨rfl, rfl⟩⟩
  generalize (w.alloc (.cells #[.slice none 0 0] 34)) = wL at *
  have hcL : wL.cell? ⟨B1, 0, none⟩ = some (.slice a l.length c) := (hal.cell (p := ⟨B1, 0, none⟩) hB1).trans hc1
  refine range_steps rfl (by decide) (gf := 149) (lb := #[.pointer (some ⟨B1, 0, none⟩)]) rfl trivial (enters_of Try.func149 (by kernel_rfl) rfl)
    (vals_steps Fence.wide 4 trivial rfl (by decide) wL B1 bp o c a (by omega) (by omega) l hl hcL (fun j x hx => ⟨(hcp j x hx).1, (hal.cell (p := ⟨bp, o + j, none⟩) hbp).trans (hcp j x hx).2⟩)) KeepTwo.trans (fun W i o hi => KeepTwo.put (by omega) (by omega) W o) (fun _ => rfl)
    (SeqV w.heap.size B1 bp w) (SeqV.own (Nat.le_refl _) (by omega))
    ⟨⟨_, bN, hO, _, _, rfl⟩, hal⟩
    (fun x : Int => { tmps := #[.slice none 0 0, .func (.func 149) #[] #[.pointer (some ⟨B1, 0, none⟩)], .pointer (some ⟨w.heap.size, 0, none⟩), undef, .slice none 0 0, .int .i64 x, .func (.func 149) #[] #[.pointer (some ⟨B1, 0, none⟩)], .int .i64 x, undef, undef, undef, undef, undef], defers := [] }) ?assign ?body ?done
  case assign =>
    intro i x W K hK
    gi_wp2
    exact hK
  case body =>
    rintro i pre x W ⟨hpe, hpx⟩ ⟨⟨v, hb, ho, av, cv, rfl⟩, hbe⟩
    have hpl : pre.length ≤ 1048576 := by have := (List.getElem?_eq_some_iff.1 hpx).1; omega
    have hlt := hb.lt
    obtain ⟨v2, w2, hrun, hR2, hb2, hk2, a2, c2, rfl⟩ := appendNil (w.heap.size + 1) _ pre x W ho (by omega) hpl
    have hbx2 : Boxed w2 w.heap.size 34 (.slice av pre.length cv) := (hb2.block w.heap.size (by omega)).trans hb
    have hset : ∀ k, k ≠ w.heap.size → (w2.setCell ⟨w.heap.size, 0, none⟩ (.slice a2 (pre ++ [x]).length c2)).heap[k]? = w2.heap[k]? := fun k hk => Below.heap_setCell _ _ _ _ hk
    have hkk : ∀ k, k < w.heap.size → (w2.setCell ⟨w.heap.size, 0, none⟩ (.slice a2 (pre ++ [x]).length c2)).heap[k]? = W.heap[k]? := fun k hk => (hset k (by omega)).trans (hb2.block k (by omega))
    have HPOST : ∀ a', Hid (stepPost wL.heap.size (KeepTwo B1 bp) (SeqV w.heap.size B1 bp w) (pre ++ [x]) W .normal a' (w2.setCell ⟨w.heap.size, 0, none⟩ (.slice a2 (pre ++ [x]).length c2))) := fun a' => Lib.hid (by
      refine ⟨⟨Nat.le_trans hb2.size (by simp), fun k o' _ hk ho' => ?_⟩, ⟨hkk _ hB1, hkk _ hbp⟩, ⟨_, hbx2.set _, own_same hR2 (fun k hk => hset k (fun e => ?_)), _, _, rfl⟩, (hbe.trans (hb2.mono (Nat.le_succ _))).setCell (p := ⟨w.heap.size, 0, none⟩) (Nat.le_refl _) _⟩
      · have h1 : k ≠ w.heap.size := fun e => by subst e; rw [show W.heap[w.heap.size]? = _ from hb] at hk; cases hk; cases ho'
        exact (hset k h1).trans ((hk2 k (Array.getElem?_eq_some_iff.1 hk).1 (fun e => by have := (own_cells ho e).2 o' hk; rw [ho'] at this; cases this)).trans hk)
      · have := (own_cells hR2 hk).1; omega)
    have hcS := hb.cell
    have hca := (hb.alloc (.cells #[.int .i64 x] 3)).cell
    have hcS2 := hbx2.cell
    have hfS2 := hbx2.frozen
    clear hszL hb ho hbe hpl hpe hpx hR2 hb2 hk2 hbx2 hset hkk hcp hc1 hcL hal hO bN
    gi_wp2
    rw [show pre.length + 1 = (pre ++ [x]).length by simp]
    exact (HPOST _).out
  case done =>
    rintro D ys W hD rfl ⟨⟨v, hb, ho, av, cv, rfl⟩, hbe⟩ hK
    have hcS := hb.cell
    have HO : Hid (W.ownsRow w.heap.size 3 1 (.slice av ys.length cv) ys.length (ints ys)) := Lib.hid ⟨ho.1, by
      rcases ho.2 with hn | ⟨j, cap, cur, e, hj, rest⟩
      · exact .inl hn
      · exact .inr ⟨j, cap, cur, e, by omega, rest⟩⟩
    have HK := Lib.hid hK
    have HBE := Lib.hid hbe
    clear hb ho hbe hK
    gi_wp2
    exact seqv_leave HK.out (by omega) HBE.out HO.out rfl

end Go.Proofs.Ytagibgphegoagaa
end

section
/- Three lists that grow by append, in different blocks. -/
namespace Go.Proofs.Ytagibgphegoagaa
open Go.RowKit P El Qk
set_option linter.unusedVariables false
attribute [local go_sem ↓ high] builtin_append_held

/-- Two lists in different blocks. -/
def Apart (u v : Value) : Prop := ∀ g, u.ownBlock = some g → v.ownBlock = some g → False
theorem Apart.symm {u v : Value} (h : Apart u v) : Apart v u := fun g a b => h g b a
theorem Apart.of {base g n c : Nat} {w : World} {u v : Value} {M : List Int} (h : Apart u v) (hv : Held base w v M) (hg : u.ownBlock = some g ∨ w.heap.size ≤ g) : Apart (.slice (some ⟨g, 0, none⟩) n c) v := fun k a b => by
  obtain rfl : g = k := by simpa [Value.ownBlock] using a
  rcases hg with hg | hg
  · exact h g hg b
  · have := (hv.1.lt g b).2; omega
theorem Held.keepN {base : Nat} {w w' : World} {u v : Value} {M : List Int} (hv : Held base w v M) (h : Apart u v) (hf : ∀ k, k < w.heap.size → u.ownBlock ≠ some k → w'.heap[k]? = w.heap[k]?) : Held base w' v M :=
  hv.own (fun g c e hg => hf g hg (fun hu => h g hu (by rw [e]; rfl)))
/-- The three lists. -/
structure Du3 (base : Nat) (u v t : Value) (A B C : List Int) (w0 w : World) : Prop where
  a : Held base w u A
  b : Held base w v B
  c : Held base w t C
  ab : Apart u v
  ac : Apart u t
  bc : Apart v t
  bl : Below base w0 w
/-- 'append(l, n)' to one of them. -/
theorem appD (base : Nat) (v : Value) (L : List Int) (x : Int) (w : World) (h : Held base w v L) (hb : base ≤ w.heap.size) (hn : L.length ≤ 1048576) :
    ∃ g' c' w', (heldAppend #[34, 34] 34 #[v, .slice (some ⟨w.heap.size, 0, none⟩) 1 1]).run Try.prog (w.alloc (.cells #[.int .i64 x] 3)) = .ok (.slice (some ⟨g', 0, none⟩) (L.length + 1) c') w' ∧
      Held base w' (.slice (some ⟨g', 0, none⟩) (L.length + 1) c') (L ++ [x]) ∧ Below base w w' ∧ (∀ k, k < w.heap.size → v.ownBlock ≠ some k → w'.heap[k]? = w.heap[k]?) ∧ (v.ownBlock = some g' ∨ w.heap.size ≤ g') := by
  obtain ⟨g', c', w', h1, h2, h3, h4, h5⟩ := appendN base v L x w h.1 hb hn
  have e : (L ++ [x]).length = L.length + 1 := by simp
  rw [e] at h2
  exact ⟨g', c', w', h1, ⟨h2, g', c', by rw [e]⟩, h3, h4, h5⟩
/-- 'append(l, list...)', and what else stays. -/
theorem appM (base : Nat) (v : Value) (L : List Int) (b o c : Nat) (l : List Int) (w : World) (h : Held base w v L) (hb : base ≤ w.heap.size) (hn : L.length + l.length ≤ 2097152)
    (hl : ∀ (j : Nat) u, (ints l)[j]? = some u → w.cell? ⟨b, o + j, none⟩ = some u) :
    ∃ v' w', (heldAppend #[34, 34] 34 #[v, .slice (some ⟨b, o, none⟩) l.length c]).run Try.prog w = .ok v' w' ∧
      Held base w' v' (L ++ l) ∧ Below base w w' ∧ (∀ k, k < w.heap.size → v.ownBlock ≠ some k → w'.heap[k]? = w.heap[k]?) ∧ w.heap.size ≤ w'.heap.size := by
  obtain ⟨i0, hi, hz0, hz1, hz2⟩ := info_parts infoIntH
  obtain ⟨h, g, cv, rfl⟩ := h
  obtain ⟨v', w', hrun, hown, hgrow, hnil⟩ := run_append_own (P := Try.prog) (w := w) base 34 34 3 i0 (.int .i64 0) 1 8 Try.underlying34 hi hz0 hz1 hz2 rfl (by decide)
    _ L.length (ints L) h ⟨b, o, none⟩ l.length c (ints l) (by rw [ints_length, Nat.mul_one]) (fun j u hu => by
      have e : (⟨b, o, none⟩ : Addr).add j = ⟨b, o + j, none⟩ := by
        unfold Addr.add; split
        · rename_i h; subst h; rfl
        · rfl
      rw [e]; exact hl j u hu) (ints_one l) (by unfold maxLen; omega) (by omega) (by omega)
  rw [← ints_append L l, ← show (L ++ l).length = L.length + l.length by simp] at hown
  have hbl : Below base w w' := (Below.refl base w).grown hgrow (by omega) (fun j e => (h.lt j e).1)
  refine ⟨v', w', hrun, ⟨hown, ?_⟩, hbl, fun k hk hne => hgrow.block k hk (Ne.symm hne), hbl.size⟩
  rcases hown.2 with ⟨e, hz⟩ | ⟨g', cap, cur, e, _⟩
  · have := (hnil.1 e).1
    simp at this
  · exact ⟨g', cap, e⟩
theorem Du3.low {base : Nat} {u v t : Value} {A B C : List Int} {w0 w : World} (h : Du3 base u v t A B C w0 w) (hb : base ≤ w.heap.size) (hn : A.length ≤ 1048576) (x : Int) :
    ∃ g' c' w', (heldAppend #[34, 34] 34 #[u, .slice (some ⟨w.heap.size, 0, none⟩) 1 1]).run Try.prog (w.alloc (.cells #[.int .i64 x] 3)) = .ok (.slice (some ⟨g', 0, none⟩) (A.length + 1) c') w' ∧ Du3 base (.slice (some ⟨g', 0, none⟩) (A.length + 1) c') v t (A ++ [x]) B C w0 w' := by
  obtain ⟨g', c', w', h1, h2, h3, h4, h5⟩ := appD base u A x w h.a hb hn
  exact ⟨g', c', w', h1, h2, h.b.keepN h.ab h4, h.c.keepN h.ac h4, h.ab.of h.b h5, h.ac.of h.c h5, h.bc, h.bl.trans h3⟩
theorem Du3.mid {base : Nat} {u v t : Value} {A B C : List Int} {w0 w : World} (h : Du3 base u v t A B C w0 w) (hb : base ≤ w.heap.size) (hn : B.length ≤ 1048576) (x : Int) :
    ∃ g' c' w', (heldAppend #[34, 34] 34 #[v, .slice (some ⟨w.heap.size, 0, none⟩) 1 1]).run Try.prog (w.alloc (.cells #[.int .i64 x] 3)) = .ok (.slice (some ⟨g', 0, none⟩) (B.length + 1) c') w' ∧ Du3 base u (.slice (some ⟨g', 0, none⟩) (B.length + 1) c') t A (B ++ [x]) C w0 w' := by
  obtain ⟨g', c', w', h1, h2, h3, h4, h5⟩ := appD base v B x w h.b hb hn
  exact ⟨g', c', w', h1, h.a.keepN h.ab.symm h4, h2, h.c.keepN h.bc h4, (h.ab.symm.of h.a h5).symm, h.ac, h.bc.of h.c h5, h.bl.trans h3⟩
theorem Du3.high {base : Nat} {u v t : Value} {A B C : List Int} {w0 w : World} (h : Du3 base u v t A B C w0 w) (hb : base ≤ w.heap.size) (hn : C.length ≤ 1048576) (x : Int) :
    ∃ g' c' w', (heldAppend #[34, 34] 34 #[t, .slice (some ⟨w.heap.size, 0, none⟩) 1 1]).run Try.prog (w.alloc (.cells #[.int .i64 x] 3)) = .ok (.slice (some ⟨g', 0, none⟩) (C.length + 1) c') w' ∧ Du3 base u v (.slice (some ⟨g', 0, none⟩) (C.length + 1) c') A B (C ++ [x]) w0 w' := by
  obtain ⟨g', c', w', h1, h2, h3, h4, h5⟩ := appD base t C x w h.c hb hn
  exact ⟨g', c', w', h1, h.a.keepN h.ac.symm h4, h.b.keepN h.bc.symm h4, h2, h.ab, (h.ac.symm.of h.a h5).symm, (h.bc.symm.of h.b h5).symm, h.bl.trans h3⟩

theorem filt_yes {l : List Int} {p : Int → Bool} {k : Nat} {x : Int} (h : l[k]? = some x) (hp : p x = true) : (l.take (k + 1)).filter p = (l.take k).filter p ++ [x] := by
  rw [List.take_add_one, h, List.filter_append]; simp [hp]
theorem filt_no {l : List Int} {p : Int → Bool} {k : Nat} {x : Int} (h : l[k]? = some x) (hp : p x = false) : (l.take (k + 1)).filter p = (l.take k).filter p := by
  rw [List.take_add_one, h, List.filter_append]; simp [hp]
theorem filt_len {l : List Int} (p : Int → Bool) (k : Nat) : ((l.take k).filter p).length ≤ l.length :=
  Nat.le_trans (List.length_filter_le _ _) (by rw [List.length_take]; omega)

end Go.Proofs.Ytagibgphegoagaa
end

section
/- The program's SortingPermutation, by its contract: the whole. -/
namespace Go.Proofs.Ytagibgphegoagaa
open Go.RowKit Go.Sort Go.Lib StC P

theorem compareI_any (x y : Int) (W : World) : Calls Try.prog 133 #[.int .i64 x, .int .i64 y] W fun e w' => e = .returned (.int .i64 (compareInt x y)) ∧ w' = W := by
  by_cases h1 : x < y
  · have hd : Hid (compareInt x y = -1) := Lib.hid (by unfold compareInt; rw [if_pos h1])
    go_enter Try.func133, Try.ntmps133
    go_wp2
    go_ret
    exact ⟨by rw [hd.out]; rfl, rfl⟩
  · by_cases h2 : y < x
    · have hd : Hid (compareInt x y = 1) := Lib.hid (by unfold compareInt; rw [if_neg h1, if_pos h2])
      go_enter Try.func133, Try.ntmps133
      go_wp2
      go_ret
      exact ⟨by rw [hd.out]; rfl, rfl⟩
    · have hd : Hid (compareInt x y = 0) := Lib.hid (by unfold compareInt; rw [if_neg h1, if_neg h2])
      go_enter Try.func133, Try.ntmps133
      go_wp2
      go_ret
      exact ⟨by rw [hd.out]; rfl, rfl⟩

/-- The comparison of indices by the numbers that they stand for. -/
def cfL {NN : Nat} (l : List Int) (x y : Fin (NN + 1)) : Int := compareInt (l.getD x.val 0) (l.getD y.val 0)
theorem ltL {NN : Nat} (l : List Int) (x y : Fin (NN + 1)) : ltOf (cfL l) x y = decide (l.getD x.val 0 < l.getD y.val 0) := by
  unfold ltOf cfL compareInt
  by_cases h1 : l.getD x.val 0 < l.getD y.val 0
  · rw [if_pos h1]; simp only [h1]; rfl
  · rw [if_neg h1]
    by_cases h2 : l.getD y.val 0 < l.getD x.val 0
    · rw [if_pos h2]; simp only [h1]; rfl
    · rw [if_neg h2]; simp only [h1]; rfl
theorem swoL {NN : Nat} (l : List Int) : SWO (ltOf (cfL (NN := NN) l)) where
  irrefl x := by rw [ltL]; simp
  trans x y z h1 h2 := by rw [ltL] at *; simp only [decide_eq_true_eq] at *; omega
  ntrans x y z h1 h2 := by rw [ltL] at *; simp only [decide_eq_false_iff_not] at *; omega

theorem filter_vals {NN : Nat} (p : Int → Bool) (L : List (Fin (NN + 1))) : (valsF L).filter p = valsF (L.filter fun x => p (x.val : Int)) := by
  unfold valsF; rw [List.filter_map]; rfl
theorem stab_ofL {NN : Nat} {l : List Int} {M : List (Fin (NN + 1))} (h : St (ltOf (cfL l)) (fins NN) M) : Stab.Of (keyOf l) (iota (NN + 1)) (valsF M) := by
  have hk : ∀ x : Fin (NN + 1), keyOf l (x.val : Int) = l.getD x.val 0 := fun x => by unfold keyOf; rw [Int.toNat_natCast]
  refine ⟨?_, fun q => ?_⟩
  · unfold valsF
    rw [List.pairwise_map]
    refine h.sorted.imp fun {a b} hh => ?_
    rw [ltL] at hh
    rw [hk, hk]
    simp only [decide_eq_false_iff_not] at hh
    omega
  · rw [← valsF_fins, filter_vals, filter_vals]
    congr 1
    by_cases hq : ∃ z : Fin (NN + 1), l.getD z.val 0 = q
    · obtain ⟨z, hz⟩ := hq
      have e : (fun x : Fin (NN + 1) => keyOf l (x.val : Int) == q) = tie (ltOf (cfL l)) z := by
        funext x
        rw [hk]
        unfold tie
        rw [ltL, ltL, hz]
        generalize l.getD x.val 0 = y
        by_cases h1 : y = q
        · rw [h1]; simp
        · have h2 : (y == q) = false := by simpa using h1
          rw [h2]
          by_cases h3 : q < y
          · simp [h3]
          · have h4 : y < q := by omega
            simp [h4]
      have := h.same z
      rw [e]; exact this
    · have e : ∀ L : List (Fin (NN + 1)), L.filter (fun x => keyOf l (x.val : Int) == q) = [] := fun L => by
        rw [List.filter_eq_nil_iff]
        intro x _
        rw [hk]
        intro hx
        exact hq ⟨x, by simpa using hx⟩
      rw [e, e]

set_option maxRecDepth 100000 in
set_option maxHeartbeats 4000000 in
theorem byElement_any (a : Option Addr) (c box : Nat) (l : List Int) (x y : Nat) (W : World) (hbox : W.cell? ⟨box, 0, none⟩ = some (.slice a l.length c)) (H : ∀ (j : Nat) z, l[j]? = some z → ∃ b o, a = some ⟨b, o, none⟩ ∧ W.cell? ⟨b, o + j, none⟩ = some (.int .i64 z)) (hx : x < l.length) (hy : y < l.length) :
    Calls Try.prog 132 #[.int .i64 (x : Int), .int .i64 (y : Int), .pointer (some ⟨box, 0, none⟩)] W fun e w' => e = .returned (.int .i64 (compareInt (l.getD x 0) (l.getD y 0))) ∧ ∃ q os', w' = grow (W.drewN q) os' := by
  obtain ⟨b, o, rfl, hcx⟩ := H _ _ (at_getD hx)
  obtain ⟨b', o', e', hcy⟩ := H _ _ (at_getD hy)
  simp at e'
  obtain ⟨rfl, rfl⟩ := e'
  have HC := Lib.hid (fun W' => compareI_any (l.getD x 0) (l.getD y 0) W')
  have hxz : (x : Int) < l.length := by omega
  have hyz : (y : Int) < l.length := by omega
  generalize l.getD x 0 = p at *
  generalize l.getD y 0 = q at *
  generalize compareInt p q = r at *
  clear H hx hy
  go_enter Try.func132, Try.ntmps132
  go_wp2_with fail
  go_quiet (first | (go_at_call 133; refine Calls.quiet_of_same (HC.out _)))
  go_wp2_with fail
  go_ret
  exact ⟨rfl, nq, #[], by rw [grow_empty]⟩

set_option maxRecDepth 100000 in
set_option maxHeartbeats 4000000 in
theorem implSortP_any (v : Value) (l : List Int) (w : World) (hv : FlatAt w v l.length (ints l)) (hn : l.length ≤ 1048576) :
    Calls Try.prog 84 #[v] w (RetI (sortF l) w) := by
  obtain ⟨a, c, rfl, _⟩ := id hv
  have hB0 : Below w.heap.size w (w.alloc (.cells #[.slice a l.length c] 34)) := (Below.refl _ _).alloc (Nat.le_refl _) _
  have HB0 := Lib.hid hB0
  have hbox := cell_one_new w (.slice a l.length c) 34
  have HV := Lib.hid (hv.below hB0)
  obtain ⟨a', c', he, _, h⟩ := hv
  simp at he
  obtain ⟨rfl, rfl⟩ := he
  have HCELL : Hid (∀ (j : Nat) z, l[j]? = some z → ∃ b o, a = some ⟨b, o, none⟩ ∧ b < w.heap.size ∧ w.cell? ⟨b, o + j, none⟩ = some (.int .i64 z)) := Lib.hid (fun j z hj => h _ _ (ints_at hj))
  clear hB0 h
  obtain ⟨W0, hW0⟩ : ∃ W0, W0 = w.alloc (.cells #[.slice a l.length c] 34) := ⟨_, rfl⟩
  have hbx : W0.cell? ⟨w.heap.size, 0, none⟩ = some (.slice a l.length c) := by rw [hW0]; simp
  have hlt : w.heap.size < W0.heap.size := by rw [hW0]; simp
  rw [← hW0] at HB0 HV
  by_cases hok : OkL l
  · have hd : decide (OkL l) = true := decide_eq_true hok
    have HI := Lib.hid (fun W (h : FlatAt W (.slice a l.length c) l.length (ints l)) => by have := implValidList_any _ l W h hn; rw [hd] at this; exact this)
    have HF := Lib.hid (sortF_yes hok)
    have HID := Lib.hid (fun W => identity_any l.length W hn)
    have eg : ∀ args w, (callFunc 132 args).run Try.prog w = .ok (.enter 132 args) w := enters_of Try.func132 (by kernel_rfl) rfl
    have EG := Lib.hid eg
    clear hok hd hbox eg
    go_enter Try.func84, Try.ntmps84
    go_wp2_with fail
    rw [← hW0]
    refine (HI.out _ HV.out).mono ?_
    rintro e w1 ⟨rfl, hb1⟩
    have hbx1 : w1.cell? ⟨w.heap.size, 0, none⟩ = some (.slice a l.length c) := (hb1.cell (p := ⟨w.heap.size, 0, none⟩) hlt).trans hbx
    have hlt1 : w.heap.size < w1.heap.size := Nat.lt_of_lt_of_le hlt hb1.size
    have HB1 := Lib.hid (HB0.out.trans (hb1.mono HB0.out.size))
    clear hb1 HI HV hbx hlt HB0 hW0
    go_wp2_with fail
    refine (HID.out _).mono ?_
    rintro e w2 ⟨rfl, hrow, hb2⟩
    have HBX2 : Hid (w2.cell? ⟨w.heap.size, 0, none⟩ = some (.slice a l.length c)) := Lib.hid ((hb2.cell (p := ⟨w.heap.size, 0, none⟩) hlt1).trans hbx1)
    have hlt2 : w.heap.size < w2.heap.size := Nat.lt_of_lt_of_le hlt1 hb2.size
    have HB2 := Lib.hid (HB1.out.trans (hb2.mono HB1.out.size))
    have HR2 := Lib.hid (CellRow.of_row hrow)
    clear hrow hb2 hbx1 HID
    by_cases hz : l.length = 0
    · have HFZ : Hid (sortF l = ([], true)) := Lib.hid (by rw [HF.out, hz]; rfl)
      rw [hz] at HR2 HBX2 ⊢
      have HA := Lib.hid (arrange0_any w1.heap.size 0 (.func (.func 132) #[] #[.pointer (some ⟨w.heap.size, 0, none⟩)]) w2 HR2.out.1)
      clear hz
      go_wp2_with fail
      refine (HA.out).mono ?_
      rintro e w3 ⟨g, cg, rfl, hcg, hg, hrow, hb3⟩
      have HRES : Hid (RetI (sortF l) w (.returned (.tuple #[.slice (some ⟨g, 0, none⟩) 0 cg, .bool true])) w3) := Lib.hid (by rw [HFZ.out]; exact ⟨g, cg, rfl, hcg, Nat.le_trans HB2.out.size hg, hrow, HB2.out.trans (hb3.mono HB2.out.size)⟩)
      clear hcg hg hrow hb3 HA
      go_wp2_with fail
      go_ret2
      exact HRES.out
    · obtain ⟨NN, hNN⟩ : ∃ NN, l.length = NN + 1 := ⟨l.length - 1, by omega⟩
      have HNN := Lib.hid hNN
      have HA := Lib.hid (arrangeN_any l.length hNN (cfL l) (swoL l) 132 #[.pointer (some ⟨w.heap.size, 0, none⟩)] EG.out w1.heap.size l.length w2 HR2.out hn (fun W hW x y =>
          byElement_any a c w.heap.size l x.val y.val W ((hW.cell (p := ⟨w.heap.size, 0, none⟩) hlt2).trans HBX2.out) (fun j z hj => by
            obtain ⟨b, o, e, h1, h2⟩ := HCELL.out j z hj
            exact ⟨b, o, e, (hW.cell (p := ⟨b, o + j, none⟩) (show b < w2.heap.size by omega)).trans ((HB2.out.cell (p := ⟨b, o + j, none⟩) h1).trans h2)⟩) (by omega) (by omega)) (Nat.le_refl _))
      clear hz hNN
      go_wp2_with fail
      refine (HA.out).mono ?_
      rintro e w3 ⟨g, cg, M, rfl, hcg, hg, hrow, hM, hb3⟩
      have hst := stab_ofL hM
      rw [← HNN.out] at hst
      have hu := sortTo_uniq hst
      have hlen := sortTo_length l l.length
      rw [hu] at hrow
      have HRES : Hid (RetI (sortF l) w (.returned (.tuple #[.slice (some ⟨g, 0, none⟩) l.length cg, .bool true])) w3) := Lib.hid (by
        rw [HF.out]; exact ⟨g, cg, by rw [hlen], by rw [hlen]; exact hcg, Nat.le_trans HB2.out.size hg, hrow, HB2.out.trans (hb3.mono HB2.out.size)⟩)
      clear hcg hg hrow hM hb3 HA hst hu hlen
      go_wp2_with fail
      go_ret2
      exact HRES.out
  · have hd : decide (OkL l) = false := decide_eq_false hok
    have HI := Lib.hid (fun W (h : FlatAt W (.slice a l.length c) l.length (ints l)) => by have := implValidList_any _ l W h hn; rw [hd] at this; exact this)
    have HF := Lib.hid (sortF_no hok)
    clear hok hd hbox
    go_enter Try.func84, Try.ntmps84
    go_wp2_with fail
    rw [← hW0]
    refine (HI.out _ HV.out).mono ?_
    rintro e w1 ⟨rfl, hb1⟩
    have HRES : Hid (RetI (sortF l) w (.returned (.tuple #[.slice (some ⟨w1.heap.size, 0, none⟩) 0 0, .bool false])) (w1.alloc (.cells #[] 3))) := Lib.hid (by rw [HF.out]; exact RetI.none w w1 (HB0.out.trans (hb1.mono HB0.out.size)))
    clear hb1
    go_wp2_with fail
    go_ret2
    exact HRES.out

end Go.Proofs.Ytagibgphegoagaa
end

section
/- slices.Sorted over slices.Values, at lists of numbers, by its contract. -/
namespace Go.Proofs.Ytagibgphegoagaa
open Go.RowKit Go.Sort
set_option linter.unusedVariables false

theorem merge_srt (l : List Int) : l.mergeSort (fun x y => decide (x ≤ y)) = El.srt l := by
  refine El.srt_uniq ?_ (List.mergeSort_perm _ _)
  have h := List.pairwise_mergeSort (le := fun x y : Int => decide (x ≤ y)) (fun a b c h1 h2 => by simp only [decide_eq_true_eq] at *; omega) (fun a b => by simp only [Bool.or_eq_true, decide_eq_true_eq]; omega) l
  exact h.imp fun h => by simpa using h

theorem collect_any (w : World) (B1 bp o c : Nat) (a : Option Addr) (l : List Int) (hl : l.length ≤ 1048576) (hB1 : B1 < w.heap.size) (hbp : bp < w.heap.size)
    (hc1 : w.cell? ⟨B1, 0, none⟩ = some (.slice a l.length c)) (hcp : ∀ (j : Nat) x, l[j]? = some x → a = some ⟨bp, o, none⟩ ∧ w.cell? ⟨bp, o + j, none⟩ = some (.int .i64 x)) :
    Calls Try.prog 148 #[.func (.func 149) #[] #[.pointer (some ⟨B1, 0, none⟩)]] w fun e w' => ∃ v', e = .returned v' ∧ w'.ownsRow w.heap.size 3 1 v' l.length (ints l) ∧ Below w.heap.size w w' := by
  have HA := Lib.hid (appendSeqI_any w B1 bp o c a l hl hB1 hbp hc1 hcp)
  clear hc1 hcp
  go_enter Try.func148, Try.ntmps148
  go_wp2_with fail
  refine (HA.out).mono ?_
  rintro e w1 ⟨v, rfl, h1, h2⟩
  have H1 := Lib.hid h1
  have H2 := Lib.hid h2
  clear h1 h2
  go_wp2_with fail
  go_ret
  exact ⟨v, rfl, H1.out, H2.out⟩

theorem sortedI_any (w : World) (B1 bp o c : Nat) (a : Option Addr) (l : List Int) (hl : l.length ≤ 1048576) (hB1 : B1 < w.heap.size) (hbp : bp < w.heap.size)
    (hc1 : w.cell? ⟨B1, 0, none⟩ = some (.slice a l.length c)) (hcp : ∀ (j : Nat) x, l[j]? = some x → a = some ⟨bp, o, none⟩ ∧ w.cell? ⟨bp, o + j, none⟩ = some (.int .i64 x)) :
    Calls Try.prog 104 #[.func (.func 149) #[] #[.pointer (some ⟨B1, 0, none⟩)]] w fun e w' => ∃ a' c', e = .returned (.slice a' (El.srt l).length c') ∧ FlatAt w' (.slice a' (El.srt l).length c') (El.srt l).length (ints (El.srt l)) ∧ Below w.heap.size w w' := by
  have HC := Lib.hid (collect_any w B1 bp o c a l hl hB1 hbp hc1 hcp)
  have hsl := El.srt_length l
  have HMS := Lib.hid (merge_srt l)
  clear hc1 hcp
  go_enter Try.func104, Try.ntmps104
  go_wp2_with fail
  refine (HC.out).mono ?_
  rintro e w1 ⟨v, rfl, hrow, hb⟩
  have HB := Lib.hid hb
  clear hb HC
  rcases hrow.2 with ⟨rfl, hz⟩ | ⟨gb, cap, cur, rfl, hbase, hgb, r1, r2, r3, r4⟩
  · have hl0 : l = [] := List.eq_nil_of_length_eq_zero hz
    subst hl0
    have HS := Lib.hid (Try.slices_Sort_int_none none 0 w1)
    clear hrow hz hsl HMS
    go_wp2_with fail
    refine (HS.out).mono ?_
    rintro e w2 ⟨rfl, rfl⟩
    go_wp2_with fail
    go_ret
    exact ⟨none, 0, rfl, ⟨none, 0, rfl, Nat.le_refl _, fun j u hu => by simp [El.srt, El.insF, El.gapF, El.insN, ints] at hu⟩, HB.out⟩
  · have hH : Holds encZ w1 gb 0 l.toArray := holds_of_block_i hgb (by simpa [ints, encZ] using r4)
    have hgl : gb < w1.heap.size := (Array.getElem?_eq_some_iff.1 hgb).1
    have HS := Lib.hid (Try.slices_Sort_int gb 0 cap l w1 hH hgl (by omega))
    have HR : Hid (∀ n os, FlatAt (grow (putRow encZ (Sort.ahead w1 n) gb 0 (El.srt l).toArray) os) (.slice (some ⟨gb, 0, none⟩) l.length cap) l.length (ints (El.srt l)) ∧ Below w.heap.size w (grow (putRow encZ (Sort.ahead w1 n) gb 0 (El.srt l).toArray) os)) := Lib.hid (fun n os => by
      have h := ownsRow_sorted_i (n := n) (os := os) (ts := El.srt l) hsl hbase hgb r1 r2 r3
      obtain ⟨_, h2, h3⟩ := CellRow.of_own h
      exact ⟨h3.flat h2, HB.out.grown (grownBy_sorted_i _) HB.out.size (fun j hj => by cases hj; exact hbase)⟩)
    clear hrow hbase hgb r1 r2 r3 r4 hH hgl
    go_wp2_with fail
    refine (HS.out).mono ?_
    rintro e w2 ⟨rfl, n, os, rfl⟩
    rw [HMS.out]
    have HR2 := Lib.hid (HR.out n os)
    clear HR HS
    generalize grow (putRow (Value.int .i64) (Sort.ahead w1 n) gb 0 (El.srt l).toArray) os = w3 at *
    have HRES : Hid (∃ a' c', Ending.returned (.slice (some ⟨gb, 0, none⟩) l.length cap) = .returned (.slice a' (El.srt l).length c') ∧ FlatAt w3 (.slice a' (El.srt l).length c') (El.srt l).length (ints (El.srt l)) ∧ Below w.heap.size w w3) := Lib.hid ⟨_, _, by rw [hsl], by rw [hsl]; exact HR2.out.1, HR2.out.2⟩
    clear HR2 hsl HMS
    go_wp2_with fail
    go_ret
    exact HRES.out

end Go.Proofs.Ytagibgphegoagaa
end

section
/- The model's PartialSort, by its contract. -/
namespace Go.Proofs.Ytagibgphegoagaa
open Go.RowKit P El Qk Sl
set_option linter.unusedVariables false
attribute [local go_sem ↓ high] builtin_append_held

set_option maxRecDepth 100000 in
set_option maxHeartbeats 8000000 in
theorem specPso_any (b o c : Nat) (l : List Int) (k : Int) (w : World) (hv : FlatAt w (.slice (some ⟨b, o, none⟩) l.length c) l.length (ints l)) (hn : l.length ≤ 1048576) :
    Calls Try.prog 57 #[.slice (some ⟨b, o, none⟩) l.length c, .int .i64 k] w (RetIE (psAll l k) w) := by
  have HVL := Lib.hid (l2List_any _ l w hv hn)
  have HV := Lib.hid hv
  clear hv
  have HIN := Lib.hid (fun W => l1In_any k 0 (l.length : Int) W)
  by_cases hok : OkL l
  · rw [decide_eq_true hok] at HVL
    by_cases h0 : 0 ≤ k ∧ k ≤ (l.length : Int)
    · rw [decide_eq_true h0] at HIN
      obtain ⟨K, rfl⟩ : ∃ K : Nat, k = (K : Int) := ⟨k.toNat, by omega⟩
      have hK : K ≤ l.length := by omega
      have h64 := hok.1
      have HF := Lib.hid (psAll_yes hok hK)
      have HSR := Lib.hid (fun W (h : FlatAt W (.slice (some ⟨b, o, none⟩) l.length c) l.length (ints l)) => l2SortedH_big b o c l W h (by omega))
      have HVW := Lib.hid (fun W (h : Below w.heap.size w W) => HV.out.below h)
      have hKz : (K : Int) ≤ (l.length : Int) := by omega
      clear hok h0
      go_enter Try.func57, Try.ntmps57
      go_wp2_with fail
      refine HVL.out.mono ?_
      rintro e w1 ⟨rfl, hb1⟩
      have HB1 := Lib.hid hb1
      clear hb1 HV HVL
      go_wp2_with fail
      refine (HIN.out _).mono ?_
      rintro e w1' ⟨rfl, rfl⟩
      go_wp2_with fail
      refine (HSR.out _ (HVW.out _ HB1.out)).mono ?_
      rintro e w2 ⟨g, cap, rfl, hcap, hg, hrow, hblk, hb2⟩
      have hKc : K ≤ cap := by omega
      have HI0 : Hid (Held w.heap.size w2 (.slice (some ⟨g, 0, none⟩) K cap) (psTo l K 0) ∧ Below w.heap.size w w2) := Lib.hid (by
        refine ⟨?_, HB1.out.trans (hb2.mono HB1.out.size)⟩
        rw [psTo_zero]
        exact hblk.part hrow (Nat.le_trans HB1.out.size hg) (by rw [srt_length]; exact hK) (by rw [srt_length]; exact hcap))
      have hp0 : (psTo l K 0).length = K := by rw [psTo_zero, List.length_take, srt_length]; omega
      have HP0 := Lib.hid hp0
      clear hrow hblk hb2 hg HB1 HSR HIN hp0
      go_wp2_with fail
      go_loopw [6, 7, 8, 9] (fun ov iv _ _ wr => ∃ i : Nat, i ≤ l.length ∧ iv = .int .i64 (i : Int) ∧ Held w.heap.size wr ov (psTo l K i) ∧ Below w.heap.size w wr) (fun _ iv _ _ _ => l.length - (intOf iv).toNat)
      case atStart => exact ⟨0, Nat.zero_le _, rfl, HI0.out⟩
      case round =>
        obtain ⟨i, hi, rfl, hh, hb⟩ := hrel
        have HH := Lib.hid hh
        have HB := Lib.hid hb
        obtain ⟨_, go', co, hvo⟩ := hh
        subst hvo
        clear hb HI0 HP0
        by_cases hlt : i < l.length
        · have hiz : (i : Int) < (l.length : Int) := by omega
          have hid : decide ((i : Int) < (l.length : Int)) = true := decide_eq_true hiz
          have HCELL : Hid (∀ W, Below w.heap.size w W → ∀ (j : Nat), j < l.length → W.cell? ⟨b, o + j, none⟩ = some (.int .i64 (l.getD j 0))) := Lib.hid (fun W hW j hj => by
            obtain ⟨a0, c0, e0, _, h⟩ := HVW.out _ hW
            simp at e0
            obtain ⟨rfl, rfl⟩ := e0
            obtain ⟨b2, o2, e2, _, hc⟩ := h _ _ (ints_at (at_getD hj))
            simp at e2
            obtain ⟨rfl, rfl⟩ := e2
            exact hc)
          have HR0 : Hid (rkTo l i 0 = 0) := Lib.hid (by simp [rkTo, iota])
          have hpl := psTo_len l K i
          have HPSY := Lib.hid (fun h => psTo_yes (l := l) (k := K) (i := i) h)
          have HPSN := Lib.hid (fun h => psTo_no (l := l) (k := K) (i := i) h)
          have HRK : Hid (rkI l l.length (i : Int) = rkTo l i l.length) := Lib.hid rfl
          rw [HRK.out] at HPSY HPSN
          generalize psTo l K i = Q at *
          obtain ⟨q, hq⟩ : ∃ q, q = Q.length := ⟨_, rfl⟩
          rw [← hq] at HH ⊢
          have HQ := Lib.hid hq
          have hq2 : q ≤ 128 := by omega
          clear hq hpl HRK
          go_wp2_with fail
          go_loopw [8, 9] (fun rv jv ws => ∃ j : Nat, j ≤ l.length ∧ rv = .int .i64 ((rkTo l i j : Nat) : Int) ∧ jv = .int .i64 (j : Int) ∧ (Held w.heap.size ws (.slice (some ⟨go', 0, none⟩) q co) Q ∧ Below w.heap.size w ws)) (fun _ jv _ => l.length - (intOf jv).toNat)
          case atStart => exact ⟨0, Nat.zero_le _, by rw [HR0.out]; rfl, rfl, HH.out, HB.out⟩
          case round =>
            obtain ⟨j, hj, rfl, rfl, hhb⟩ := hrel
            have hcy := HCELL.out wr hhb.2 i hlt
            obtain ⟨y, hy⟩ : ∃ y, y = l.getD i 0 := ⟨_, rfl⟩
            rw [← hy] at hcy
            have hrl := rkTo_le l i j
            have HN : Hid (∀ n, Held w.heap.size (wr.drewN n) (.slice (some ⟨go', 0, none⟩) q co) Q ∧ Below w.heap.size w (wr.drewN n)) := Lib.hid (fun n => ⟨hhb.1, hhb.2.trans ⟨rfl, rfl, rfl, Nat.le_refl _, fun _ _ => rfl⟩⟩)
            by_cases hjl : j < l.length
            · have hjz : (j : Int) < (l.length : Int) := by omega
              have hjd : decide ((j : Int) < (l.length : Int)) = true := decide_eq_true hjz
              obtain ⟨x, hx⟩ : ∃ x, x = l.getD j 0 := ⟨_, rfl⟩
              have hcx := HCELL.out wr hhb.2 j hjl
              rw [← hx] at hcx
              have hrs := rkTo_succ l i j
              rw [← hx, ← hy] at hrs
              have HRS := Lib.hid hrs
              clear hx hrs hy HR0 HH HB hhb HPSY HPSN
              by_cases h1 : x < y
              · have g1 : decide (x < y) = true := decide_eq_true h1
                have HS : Hid (rkTo l i (j + 1) = rkTo l i j + 1) := Lib.hid (by rw [HRS.out, if_pos (.inl h1)])
                generalize rkTo l i j = r at *
                clear HRS HCELL
                go_wp2_with fail
                go_quiet (fail)
                go_wp2_with fail
                go_roundw
                case rel => exact ⟨j + 1, by omega, by rw [HS.out]; go_num, by go_num, HN.out nq⟩
                case measure => simp [intOf]; omega
              · have g1 : decide (x < y) = false := decide_eq_false h1
                by_cases h2 : x = y
                · by_cases h3 : j < i
                  · have g3z : (j : Int) < (i : Int) := by omega
                    have g3 : decide ((j : Int) < (i : Int)) = true := decide_eq_true g3z
                    have HS : Hid (rkTo l i (j + 1) = rkTo l i j + 1) := Lib.hid (by rw [HRS.out, if_pos (.inr ⟨h2, h3⟩)])
                    have g2 : (x == y) = true := beq_iff_eq.2 h2
                    subst h2
                    skip
                    generalize rkTo l i j = r at *
                    clear HRS HCELL
                    go_wp2_with fail
                    go_quiet (fail)
                    go_wp2_with fail
                    go_roundw
                    case rel => exact ⟨j + 1, by omega, by rw [HS.out]; go_num, by go_num, HN.out nq⟩
                    case measure => simp [intOf]; omega
                  · have g3z : ¬ (j : Int) < (i : Int) := by omega
                    have g3 : decide ((j : Int) < (i : Int)) = false := decide_eq_false g3z
                    have HS : Hid (rkTo l i (j + 1) = rkTo l i j) := Lib.hid (by rw [HRS.out, if_neg (by omega), Nat.add_zero])
                    have g2 : (x == y) = true := beq_iff_eq.2 h2
                    subst h2
                    skip
                    generalize rkTo l i j = r at *
                    clear HRS HCELL
                    go_wp2_with fail
                    go_quiet (fail)
                    go_wp2_with fail
                    go_roundw
                    case rel => exact ⟨j + 1, by omega, by rw [HS.out], by go_num, HN.out nq⟩
                    case measure => simp [intOf]; omega
                · have g2 : (x == y) = false := beq_eq_false_iff_ne.2 h2
                  have HS : Hid (rkTo l i (j + 1) = rkTo l i j) := Lib.hid (by rw [HRS.out, if_neg (by omega), Nat.add_zero])
                  skip
                  generalize rkTo l i j = r at *
                  clear HRS HCELL
                  go_wp2_with fail
                  go_quiet (fail)
                  go_wp2_with fail
                  go_roundw
                  case rel => exact ⟨j + 1, by omega, by rw [HS.out], by go_num, HN.out nq⟩
                  case measure => simp [intOf]; omega
            · obtain rfl : j = l.length := by omega
              have hjz : ¬ (l.length : Int) < (l.length : Int) := by omega
              have hjd : decide ((l.length : Int) < (l.length : Int)) = false := decide_eq_false hjz
              obtain ⟨r, hr⟩ : ∃ r, r = rkTo l i l.length := ⟨_, rfl⟩
              rw [← hr] at HPSY HPSN hrl ⊢
              clear HR0 HH HB hr hcy hy HN
              by_cases h1 : K ≤ r
              · have g1z : (K : Int) ≤ (r : Int) := by omega
                have g1 : decide ((K : Int) ≤ (r : Int)) = true := decide_eq_true g1z
                have hcy := HCELL.out wr hhb.2 i hlt
                obtain ⟨y, hy⟩ : ∃ y, y = l.getD i 0 := ⟨_, rfl⟩
                rw [← hy] at hcy
                have hqq : q = Q.length := HQ.out
                obtain ⟨g', c', w4, hrun, hh4, hb4, _, _⟩ := appD w.heap.size _ Q y wr hhb.1 hhb.2.size (by omega)
                rw [← hqq] at hrun hh4
                have HN2 : Hid (Held w.heap.size w4 (.slice (some ⟨g', 0, none⟩) (q + 1) c') (psTo l K (i + 1)) ∧ Below w.heap.size w w4) := Lib.hid ⟨by rw [HPSY.out h1, ← hy]; exact hh4, hhb.2.trans hb4⟩
                clear hh4 hb4 hhb hqq hy HPSY HPSN HCELL
                go_wp2_with fail
                go_roundw
                case rel => exact ⟨i + 1, by omega, by go_num, HN2.out⟩
                case measure => simp [intOf]; omega
              · have g1z : ¬ (K : Int) ≤ (r : Int) := by omega
                have g1 : decide ((K : Int) ≤ (r : Int)) = false := decide_eq_false g1z
                have HN2 : Hid (Held w.heap.size wr (.slice (some ⟨go', 0, none⟩) q co) (psTo l K (i + 1)) ∧ Below w.heap.size w wr) := Lib.hid ⟨by rw [HPSN.out h1]; exact hhb.1, hhb.2⟩
                clear hhb HPSY HPSN HCELL
                go_wp2_with fail
                go_roundw
                case rel => exact ⟨i + 1, by omega, by go_num, HN2.out⟩
                case measure => simp [intOf]; omega
        · obtain rfl : i = l.length := by omega
          have hiz : ¬ (l.length : Int) < (l.length : Int) := by omega
          have hid : decide ((l.length : Int) < (l.length : Int)) = false := decide_eq_false hiz
          have HRES : Hid (RetIE (psAll l K) w (.returned (.tuple #[.slice (some ⟨go', 0, none⟩) (psTo l K l.length).length co, .bool true])) wr) := Lib.hid (by
            rw [HF.out]
            obtain ⟨_, _, ee, hg3, hc3, hr3⟩ := HH.out.row
            simp at ee
            obtain ⟨rfl, rfl⟩ := ee
            rw [psTo_all] at hc3 hr3 ⊢
            exact .inl ⟨_, _, rfl, hc3, hg3, hr3, HB.out⟩)
          clear HH HB
          go_wp2_with fail
          go_ret2
          exact HRES.out
    · rw [decide_eq_false h0] at HIN
      rw [psAll_no (fun h => h0 h.2)]
      clear hok h0
      go_enter Try.func57, Try.ntmps57
      go_wp2_with fail
      refine HVL.out.mono ?_
      rintro e w1 ⟨rfl, hb1⟩
      have HRES := Lib.hid (RetIE.nil0 w w1 hb1)
      clear hb1 HV HVL
      go_wp2_with fail
      refine (HIN.out _).mono ?_
      rintro e w1' ⟨rfl, rfl⟩
      go_wp2_with fail
      go_ret2
      exact HRES.out
  · rw [decide_eq_false hok] at HVL
    rw [psAll_no (fun h => hok h.1)]
    clear hok
    go_enter Try.func57, Try.ntmps57
    go_wp2_with fail
    refine HVL.out.mono ?_
    rintro e w1 ⟨rfl, hb1⟩
    have HRES := Lib.hid (RetIE.nil0 w w1 hb1)
    clear hb1 HV HVL
    go_wp2_with fail
    go_ret2
    exact HRES.out

end Go.Proofs.Ytagibgphegoagaa
end

section
/- The program's PartialSort, by its contract. -/
namespace Go.Proofs.Ytagibgphegoagaa
open Go.RowKit Go.Sort P El Qk Sl
set_option linter.unusedVariables false

theorem grown_part {w : World} {g n off : Nat} {os : Array Obj} (d : Array Int) : w.grownBy (grow (putRow (Value.int .i64) (Sort.ahead w n) g off d) os) (some g) := by
  refine ⟨rfl, rfl, rfl, by simp, fun k hk hne => ?_⟩
  rw [heap_grow_old _ _ (by simpa using hk)]
  have : g ≠ k := fun e => hne (by rw [e])
  simp [putRow, mapBlock, Sort.ahead, Array.getElem?_modify, this]

theorem sorted_part {w : World} {g n : Nat} {os : Array Obj} {A B B' : List Int} (h : CellRow w g (ints (A ++ B))) (hl : B'.length = B.length) : CellRow (grow (putRow (Value.int .i64) (Sort.ahead w n) g A.length B'.toArray) os) g (ints (A ++ B')) := by
  have hg : g < (putRow (Value.int .i64) (Sort.ahead w n) g A.length B'.toArray).heap.size := by simpa using h.1
  have hH : Holds (Value.int .i64) (Sort.ahead w n) g A.length B.toArray := fun j hj => by
    have hj' : j < B.length := by simpa using hj
    have e : (ints (A ++ B))[A.length + j]? = some (.int .i64 B.toArray[j]!) := by
      refine ints_at ?_
      rw [List.getElem?_append_right (by omega), Nat.add_sub_cancel_left, List.getElem?_eq_getElem hj']
      rw [getElem!_pos _ j hj]; simp
    exact h.2 _ _ e
  refine ⟨by rw [size_grow]; omega, fun j u hu => ⟨?_, ?_⟩⟩
  · rw [cell?_grow _ _ _ hg]
    by_cases hj : j < A.length
    · rw [cell?_putRow_other _ _ _ _ _ _ (.inr (.inl hj))]
      refine (h.2 j u ?_).1
      rw [← hu, ints_append, ints_append, List.getElem?_append_left (by rw [ints_length]; exact hj), List.getElem?_append_left (by rw [ints_length]; exact hj)]
    · obtain ⟨i, rfl⟩ : ∃ i, j = A.length + i := ⟨j - A.length, by omega⟩
      have hlt := (List.getElem?_eq_some_iff.1 hu).1
      rw [ints_length, List.length_append] at hlt
      have hi : i < B'.length := by omega
      rw [cell?_putRow _ _ _ _ _ _ hH (by simpa using hl) i (by simpa using hi)]
      rw [← hu, ints_append, List.getElem?_append_right (by rw [ints_length]; omega), ints_length, Nat.add_sub_cancel_left]
      rw [ints_at (List.getElem?_eq_getElem hi), getElem!_pos _ i (by simpa using hi)]; simp
  · have hf : (putRow (Value.int .i64) (Sort.ahead w n) g A.length B'.toArray).frozen? ⟨g, j, none⟩ = false := by
      rw [frozen?_putRow]
      have hlt := (List.getElem?_eq_some_iff.1 hu).1
      rw [ints_length, List.length_append] at hlt
      have hj : j < (ints (A ++ B)).length := by rw [ints_length, List.length_append]; omega
      exact (h.2 j _ (List.getElem?_eq_getElem hj)).2
    rw [frozen?_grow _ _ _ hg]; exact hf

set_option maxRecDepth 100000 in
set_option maxHeartbeats 8000000 in
theorem implPsoY_any (b o c : Nat) (l : List Int) (K : Nat) (w : World) (hv : FlatAt w (.slice (some ⟨b, o, none⟩) l.length c) l.length (ints l)) (hok : OkL l) (hK : K ≤ l.length) :
    Calls Try.prog 39 #[.slice (some ⟨b, o, none⟩) l.length c, .int .i64 (K : Int)] w (RetI (psF l K, true) w) := by
  have hn : l.length ≤ 1048576 := by have := hok.1; omega
  have HVL := Lib.hid (implValidList_any _ l w hv hn)
  have HV := Lib.hid hv
  clear hv
  rw [decide_eq_true hok] at HVL
  have h0 : ¬ (K : Int) < 0 := by omega
  have h1 : ¬ (l.length : Int) < (K : Int) := by omega
  have d0 : decide ((K : Int) < 0) = false := decide_eq_false h0
  have d1 : decide ((l.length : Int) < (K : Int)) = false := decide_eq_false h1
  have HVW := Lib.hid (fun W (h : Below w.heap.size w W) => HV.out.below h)
  have HSP := Lib.hid (fun W (h : FlatAt W (.slice (some ⟨b, o, none⟩) l.length c) l.length (ints l)) => implSortP_any _ l W h hn)
  rw [sortF_yes hok] at HSP
  obtain ⟨Pm, hPm⟩ : ∃ Pm, Pm = sortTo l l.length := ⟨_, rfl⟩
  have hPl : Pm.length = l.length := by rw [hPm]; exact sortTo_length l l.length
  obtain ⟨A, hA⟩ : ∃ A, A = Pm.take K := ⟨_, rfl⟩
  obtain ⟨B, hB⟩ : ∃ B, B = Pm.drop K := ⟨_, rfl⟩
  have hAl : A.length = K := by rw [hA, List.length_take]; omega
  have hBl : B.length = l.length - K := by rw [hB, List.length_drop]; omega
  have HPAB : Hid (Pm = A ++ B) := Lib.hid (by rw [hA, hB, List.take_append_drop])
  have HRESF : Hid (psF l K = pickAt l (A ++ srt B)) := Lib.hid (by unfold psF; rw [hA, hB, hPm])
  have HIN : Hid (∀ (j : Nat) i, (A ++ srt B)[j]? = some i → 0 ≤ i ∧ i < l.length) := Lib.hid (fun j i hj => by
    have hp : (A ++ srt B).Perm (iota l.length) := ((List.Perm.refl _).append (srt_perm _)).trans (by rw [← HPAB.out, hPm]; exact sortTo_perm l l.length)
    exact iota_mem.1 (hp.mem_iff.1 (List.mem_of_getElem? hj)))
  have hsl := srt_length B
  have HEL := Lib.hid (fun v W h h' => elementsAt_any (.slice (some ⟨b, o, none⟩) l.length c) v l (A ++ srt B) W h h' (by rw [List.length_append, hsl]; omega) HIN.out)
  have hABl : (A ++ srt B).length = l.length := by rw [List.length_append, hsl]; omega
  rw [hABl] at HEL
  rw [← HRESF.out] at HEL
  rw [← hPm] at HSP
  have HMS := Lib.hid (merge_srt B)
  clear hok hPm hA hB HRESF HIN hABl
  generalize psF l K = R at *
  go_enter Try.func39, Try.ntmps39
  go_wp2_with fail
  refine HVL.out.mono ?_
  rintro e w1 ⟨rfl, hb1⟩
  have HV1 := Lib.hid (HV.out.below hb1)
  have HB1 := Lib.hid hb1
  clear hb1 HV HVL
  go_wp2_with fail
  refine (HSP.out _ HV1.out).mono ?_
  rintro e w2 ⟨g, cap, rfl, hcap, hg, hrow, hb2⟩
  have HV2 := Lib.hid (HV1.out.below hb2)
  have HB2 := Lib.hid (HB1.out.trans (hb2.mono HB1.out.size))
  have HG : Hid (w.heap.size ≤ g) := Lib.hid (Nat.le_trans HB1.out.size hg)
  simp only at hcap hrow
  rw [hPl] at hcap
  rw [HPAB.out] at hrow
  have HROW := Lib.hid hrow
  simp only
  rw [hPl]
  clear hb2 hg hrow HV1 HB1 HSP HPAB hPl
  have hKc : K ≤ cap := by omega
  have hKz : (K : Int) ≤ (l.length : Int) := by omega
  have HTAIL : Hid (∀ W, CellRow W g (ints (A ++ srt B)) → Below w.heap.size w W → Calls Try.prog 110 #[.slice (some ⟨b, o, none⟩) l.length c, .slice (some ⟨g, 0, none⟩) l.length cap] W fun e w' => ∃ g2 c2, e = .returned (.slice (some ⟨g2, 0, none⟩) R.length c2) ∧ RetI (R, true) w (.returned (.tuple #[.slice (some ⟨g2, 0, none⟩) R.length c2, .bool true])) w') := Lib.hid (fun W hr hb => by
    refine (HEL.out _ W (HVW.out W hb) (hr.flat hcap)).mono ?_
    rintro e w' ⟨g2, c2, rfl, hc2, hg2, hr2, hb2⟩
    exact ⟨g2, c2, rfl, g2, c2, rfl, hc2, Nat.le_trans hb.size hg2, hr2, hb.trans (hb2.mono hb.size)⟩)
  clear HEL HVW HV2
  by_cases hlt : K < l.length
  · have HSORT : Hid (Calls Try.prog 109 #[.slice (some ⟨g, K, none⟩) (l.length - K) (cap - K)] w2 fun e w' => e = .returned (.tuple #[]) ∧ CellRow w' g (ints (A ++ srt B)) ∧ Below w.heap.size w w') := Lib.hid (by
      have hH : Holds (Value.int .i64) w2 g K B.toArray := fun j hj => by
        have hj' : j < B.length := by simpa using hj
        have e : (ints (A ++ B))[K + j]? = some (.int .i64 B.toArray[j]!) := by
          refine ints_at ?_
          rw [List.getElem?_append_right (by omega), hAl, Nat.add_sub_cancel_left, List.getElem?_eq_getElem hj', getElem!_pos _ j hj]; simp
        exact HROW.out.2 _ _ e
      have := Try.slices_Sort_int g K (cap - K) B w2 hH HROW.out.1 (by omega)
      rw [hBl] at this
      refine this.mono ?_
      rintro e w' ⟨rfl, n, os, rfl⟩
      rw [HMS.out]
      refine ⟨rfl, ?_, ?_⟩
      · have h := sorted_part (n := n) (os := os) HROW.out hsl
        rw [hAl] at h; exact h
      · exact HB2.out.grown (grown_part _) HB2.out.size (fun j hj => by cases hj; exact HG.out))
    have hne1 : ¬ K = cap := by omega
    have hne2 : ¬ cap = K := by omega
    have hnz : (l.length : Int) - (K : Int) = ((l.length - K : Nat) : Int) := by omega
    clear HROW HMS HB2 HG hAl hBl hsl
    go_wp2_with fail
    refine HSORT.out.mono ?_
    rintro e w3 ⟨rfl, hr3, hb3⟩
    have HT := Lib.hid (HTAIL.out w3 hr3 hb3)
    clear hr3 hb3 HSORT HTAIL
    go_wp2_with fail
    refine HT.out.mono ?_
    rintro e w4 ⟨g2, c2, rfl, hres⟩
    have HRES := Lib.hid hres
    clear hres HT
    go_wp2_with fail
    go_ret2
    exact HRES.out
  · have hKn : K = l.length := by omega
    have hB0 : B = [] := List.eq_nil_of_length_eq_zero (by omega)
    have HR0 : Hid (CellRow w2 g (ints (A ++ srt B))) := Lib.hid (by
      have e : A ++ srt B = A ++ B := by rw [hB0]; rfl
      rw [e]; exact HROW.out)
    have HSORT0 := Lib.hid (fun p cp => (Try.slices_Sort_int_none p cp w2).mono (R' := fun e w' => e = .returned (.tuple #[]) ∧ CellRow w' g (ints (A ++ srt B)) ∧ Below w.heap.size w w') (by
      rintro e w' ⟨rfl, rfl⟩
      exact ⟨rfl, HR0.out, HB2.out⟩))
    clear HROW HMS HB2 HG hAl hBl hsl hB0 HR0 hlt
    subst hKn
    by_cases hcc : l.length = cap
    · have hcc2 : cap = l.length := hcc.symm
      have HCC := Lib.hid hcc
      clear hcc2
      have HSORT := Lib.hid (fun p cp => HSORT0.out p cp)
      clear HSORT0
      subst hcc
      go_wp2_with fail
      refine (HSORT.out _ _).mono ?_
      rintro e w3 ⟨rfl, hr3, hb3⟩
      have HT := Lib.hid (HTAIL.out w3 hr3 hb3)
      clear hr3 hb3 HSORT HTAIL
      go_wp2_with fail
      refine HT.out.mono ?_
      rintro e w4 ⟨g2, c2, rfl, hres⟩
      have HRES := Lib.hid hres
      clear hres HT
      go_wp2_with fail
      go_ret2
      exact HRES.out
    · have hne1 : ¬ cap = l.length := fun e => hcc e.symm
      have hnn : l.length - l.length = 0 := Nat.sub_self _
      go_wp2_with fail
      refine (HSORT0.out _ _).mono ?_
      rintro e w3 ⟨rfl, hr3, hb3⟩
      have HT := Lib.hid (HTAIL.out w3 hr3 hb3)
      clear hr3 hb3 HSORT0 HTAIL
      go_wp2_with fail
      refine HT.out.mono ?_
      rintro e w4 ⟨g2, c2, rfl, hres⟩
      have HRES := Lib.hid hres
      clear hres HT
      go_wp2_with fail
      go_ret2
      exact HRES.out

set_option maxRecDepth 100000 in
set_option maxHeartbeats 8000000 in
theorem implPso_any (b o c : Nat) (l : List Int) (k : Int) (w : World) (hv : FlatAt w (.slice (some ⟨b, o, none⟩) l.length c) l.length (ints l)) (hn : l.length ≤ 1048576) :
    Calls Try.prog 39 #[.slice (some ⟨b, o, none⟩) l.length c, .int .i64 k] w (RetIE (psAll l k) w) := by
  have HVL := Lib.hid (implValidList_any _ l w hv hn)
  have HV := Lib.hid hv
  clear hv
  by_cases hok : OkL l
  · rw [decide_eq_true hok] at HVL
    by_cases h0 : k < 0
    · have d0 : decide (k < 0) = true := decide_eq_true h0
      rw [psAll_no (fun h => by have := h.2.1; omega)]
      clear hok
      go_enter Try.func39, Try.ntmps39
      go_wp2_with fail
      refine HVL.out.mono ?_
      rintro e w1 ⟨rfl, hb1⟩
      have HRES := Lib.hid (RetIE.nil0 w w1 hb1)
      clear hb1 HV HVL
      go_wp2_with fail
      go_ret2
      exact HRES.out
    · have d0 : decide (k < 0) = false := decide_eq_false h0
      by_cases h1 : (l.length : Int) < k
      · have d1 : decide ((l.length : Int) < k) = true := decide_eq_true h1
        rw [psAll_no (fun h => by have := h.2.2; omega)]
        clear hok
        go_enter Try.func39, Try.ntmps39
        go_wp2_with fail
        refine HVL.out.mono ?_
        rintro e w1 ⟨rfl, hb1⟩
        have HRES := Lib.hid (RetIE.nil0 w w1 hb1)
        clear hb1 HV HVL
        go_wp2_with fail
        go_ret2
        exact HRES.out
      · have d1 : decide ((l.length : Int) < k) = false := decide_eq_false h1
        obtain ⟨K, rfl⟩ : ∃ K : Nat, k = (K : Int) := ⟨k.toNat, by omega⟩
        have hK : K ≤ l.length := by omega
        rw [psAll_yes hok hK]
        exact (implPsoY_any b o c l K w HV.out hok hK).mono fun e w2 h => .inl h
  · rw [decide_eq_false hok] at HVL
    rw [psAll_no (fun h => hok h.1)]
    clear hok
    go_enter Try.func39, Try.ntmps39
    go_wp2_with fail
    refine HVL.out.mono ?_
    rintro e w1 ⟨rfl, hb1⟩
    have HRES := Lib.hid (RetIE.nil0 w w1 hb1)
    clear hb1 HV HVL
    go_wp2_with fail
    go_ret2
    exact HRES.out

end Go.Proofs.Ytagibgphegoagaa
end
