/- Srt VAt ConcI RetZ Res4 RetN0 PsP ISortP DrawIH Vals IDu Arr SDu3 DrawAH SortedI IDu2 ISortQ DuP DrawSd IKth IPso VLst INth, as one text. -/
import Derived.Test.YtagibgphegoagaaOwnI
import Derived.Test.YtagibgphegoagaaInsP
import Derived.BigRegion
import Derived.Laws.BitsLemmas
import Derived.Test.YtagibgphegoagaaCode
import Derived.WalkKit
import Derived.LoopTactic
import Derived.Lib.Hide
import Derived.Deep.QuietTactic
import Derived.Test.YtagibgphegoagaaOwnN
import Derived.Lib.AppendZeros
import Derived.Laws.OwnMore
import Derived.BigQuiet
import Derived.Test.YtagibgphegoagaaRet12
import Derived.Test.YtagibgphegoagaaRetCE
import Derived.Test.YtagibgphegoagaaSelP
import Derived.Test.YtagibgphegoagaaSortT
import Derived.Test.YtagibgphegoagaaStF
import Derived.Test.YtagibgphegoagaaStabI
import Derived.Test.YtagibgphegoagaaList
import Derived.Test.YtagibgphegoagaaIList
import Derived.Test.YtagibgphegoagaaCloneI
import Derived.Test.YtagibgphegoagaaIdent
import Derived.Lib.SliceRun
import Derived.Test.YtagibgphegoagaaDrawI
import Derived.Test.YtagibgphegoagaaRetI
import Derived.Test.YtagibgphegoagaaSteps
import Derived.Test.YtagibgphegoagaaElem2
import Derived.RangeFuncNested
import Derived.RangeFuncBound
import Derived.RangeFuncCalls
import Derived.RangeFuncLeaves
import Derived.RangeFuncBox
import Derived.RangeFuncFrom
import Derived.Shelf.Abstract
import Derived.OwnWalkIn
import Derived.TacticsInMore
import Derived.LoopNIn
import Derived.LoopIn
import Derived.Test.YtagibgphegoagaaQuickA
import Derived.Laws.EntriesVeiled
import Derived.Test.YtagibgphegoagaaOwnFlat
import Derived.Deep.RegionWith
import Derived.Test.YtagibgphegoagaaShelf
import Derived.Lib.SlKeysI
import Derived.Test.YtagibgphegoagaaSortF
import Derived.Test.YtagibgphegoagaaStabPos
import Derived.Test.YtagibgphegoagaaIEl
import Derived.Test.YtagibgphegoagaaListC

section
/- The model's l2Sorted, by its contract. -/
namespace Go.Proofs.Ytagibgphegoagaa
open Go.RowKit P El
set_option linter.unusedVariables false

/-- The element back in its hole: the insertion done. -/
theorem ins_hole {M H : List Int} {i k c m c' m' : Nat} (hi : i < M.length) (h : sh (M.getD i 0) 1 M i c m = (H, k, c', m')) : (insAt 1 i (M, c, m)).1 = H.set k (M.getD i 0) := by
  rw [insAt_of (S := (M, c, m)) h]
  split
  · rename_i e
    have := sh_hole (M.getD i 0) 1 M i c m hi (by rw [h]; exact e)
    rw [h] at this
    simp only at this ⊢
    rw [this, e, set_getD hi]
  · rfl

/-- The outer loop's word. -/
structure SrtO (base g : Nat) (l : List Int) (i : Nat) (M : List Int) (w W : World) : Prop where
  run : ∃ c m, (insN 1 i (l.length - i) (M, c, m)).1 = srt l
  len : M.length = l.length
  le : i ≤ 128
  row : CellRow W g (ints M)
  b : Below base w W
/-- The inner loop's word: H, the list with its hole at k. -/
structure SrtK (base g : Nat) (x : Int) (i : Nat) (M : List Int) (c m k : Nat) (H : List Int) (w W : World) : Prop where
  run : ∃ c' m', sh x 1 H k c' m' = sh x 1 M i c m
  len : H.length = M.length
  le : k ≤ i
  row : CellRow W g (ints (H.set k x))
  b : Below base w W

set_option maxRecDepth 100000 in
set_option maxHeartbeats 4000000 in
theorem l2Sorted_big (b o cc : Nat) (l : List Int) (w : World) (hv : FlatAt w (.slice (some ⟨b, o, none⟩) l.length cc) l.length (ints l)) (h64 : l.length ≤ 128) :
    Calls Try.prog 121 #[.slice (some ⟨b, o, none⟩) l.length cc] w (RowI (srt l) w) := by
  have HOWN := Lib.hid (l1Own_any b o cc l w hv (by omega))
  clear hv
  go_enter Try.func121, Try.ntmps121
  go_wp2_with fail
  refine (HOWN.out).mono ?_
  rintro e w2 ⟨g, cap, rfl, hcap, hg, hrow, hb2⟩
  have HS0 : Hid (SrtO w.heap.size g l 1 l w w2) := Lib.hid ⟨⟨0, 0, rfl⟩, rfl, by omega, hrow, hb2⟩
  have HG := Lib.hid hg
  clear hb2 hrow HOWN hg
  go_wp2_with fail
  go_loopw [4, 5, 6] (fun iv _ _ wr => ∃ (i : Nat) (M : List Int), 1 ≤ i ∧ iv = .int .i64 i ∧ SrtO w.heap.size g l i M w wr) (fun iv _ _ _ => l.length - (intOf iv).toNat)
  case atStart => exact ⟨1, l, Nat.le_refl _, rfl, HS0.out⟩
  case round =>
    obtain ⟨i, M, hi1, rfl, ho⟩ := hrel
    have HO := Lib.hid ho
    have hi64 := ho.le
    have hlM := ho.len
    clear ho HS0
    by_cases hlt : i < l.length
    · obtain ⟨x, hx⟩ : ∃ x, x = M.getD i 0 := ⟨_, rfl⟩
      obtain ⟨c, m, hrun⟩ := HO.out.run
      have HRUN : Hid ((insN 1 (i + 1) (l.length - (i + 1)) (insAt 1 i (M, c, m))).1 = srt l) := Lib.hid (by
        rw [show l.length - i = l.length - (i + 1) + 1 by omega, insN_succ] at hrun; exact hrun)
      have HK0 : Hid (SrtK w.heap.size g x i M c m i M w wr) := Lib.hid ⟨⟨c, m, rfl⟩, rfl, Nat.le_refl _, by rw [hx, set_getD (by omega)]; exact HO.out.row, HO.out.b⟩
      have HX := Lib.hid hx
      have HLM := Lib.hid hlM
      clear hx hlM hrun
      go_wp2_with fail
      go_loopw [5, 6] (fun kv _ ws => ∃ (k : Nat) (H : List Int), kv = .int .i64 k ∧ SrtK w.heap.size g x i M c m k H w ws) (fun kv _ _ => (intOf kv).toNat)
      case atStart => exact ⟨i, M, rfl, HK0.out⟩
      case round =>
        obtain ⟨k, H, rfl, hk⟩ := hrel
        have HK := Lib.hid hk
        have hki := hk.le
        clear hk HK0
        -- what follows when the place is found
        have HEND : Hid (∀ n c1, sh x 1 M i c m = (H, k, c1) → SrtO w.heap.size g l (i + 1) (H.set k x) w (wr.drewN n)) := Lib.hid (fun n c1 hr => by
          obtain ⟨c1, m1⟩ := c1
          have hh := ins_hole (M := M) (H := H) (i := i) (k := k) (c := c) (m := m) (c' := c1) (m' := m1) (by have := HLM.out; omega) (by first | exact hr | (rw [← HX.out]; exact hr))
          rw [← HX.out] at hh
          refine ⟨?_, by have h1 := HK.out.len; have h2 := HLM.out; rw [List.length_set]; omega, by omega, HK.out.row.same rfl (Nat.le_refl _), HK.out.b.trans ⟨rfl, rfl, rfl, Nat.le_refl _, fun _ _ => rfl⟩⟩
          have hr2 := HRUN.out
          rw [← hh]
          generalize insAt 1 i (M, c, m) = T at *
          obtain ⟨N, c2, m2⟩ := T
          exact ⟨c2, m2, hr2⟩)
        cases k with
        | zero =>
          have HE : Hid (∀ n, SrtO w.heap.size g l (i + 1) (H.set 0 x) w (wr.drewN n)) := Lib.hid (fun n => by
            obtain ⟨c', m', hr⟩ := HK.out.run
            rw [sh_end c' m' (by omega)] at hr
            exact HEND.out n _ hr.symm)
          have hg0 : decide ((0 : Int) < 0) = false := by decide
          clear HEND
          go_wp2_with fail
          go_quiet (fail)
          go_wp2_with fail
          go_roundw
          case rel => exact ⟨i + 1, _, by omega, by go_num, HE.out nq⟩
          case measure => simp [intOf]; omega
        | succ j =>
          obtain ⟨y, hy⟩ : ∃ y, y = H.getD j 0 := ⟨_, rfl⟩
          have hjH : j + 1 < H.length := by rw [HK.out.len, HLM.out]; omega
          obtain ⟨hcj, hfj⟩ := HK.out.row.2 j _ (ints_at (at_getD (by rw [List.length_set]; omega)))
          obtain ⟨hck, hfk⟩ := HK.out.row.2 (j + 1) _ (ints_at (at_getD (by rw [List.length_set]; exact hjH)))
          rw [getD_set_other (by omega), ← hy] at hcj
          rw [getD_set_same hjH] at hck
          have hwk : IntKind.i64.wrap (((j + 1 : Nat) : Int) - 1) = (j : Int) := by rw [IntKind.wrap_i64]; omega
          obtain ⟨k1, hk1⟩ : ∃ k1, k1 = j + 1 := ⟨_, rfl⟩
          rw [← hk1] at hwk hck hfk HK HEND hki hjH ⊢
          have HK1 := Lib.hid hk1
          have hg0 : decide ((0 : Int) < (k1 : Int)) = true := decide_eq_true (by omega)
          have hkpos : (0 : Int) < (k1 : Int) := by omega
          have hkpos' : 0 < k1 := by omega
          have hjz : (j : Int) < l.length := by omega
          have hk1z : (k1 : Int) < l.length := by omega
          have HY := Lib.hid hy
          have hne1 : ¬ j = k1 := by omega
          have hne2 : ¬ k1 = j := by omega
          clear hy hk1
          by_cases hxy : x < y
          · have hgt : decide (x < y) = true := decide_eq_true hxy
            have HN : Hid (∀ n, SrtK w.heap.size g x i M c m j (H.set k1 y) w (((wr.drewN n).setCell ⟨g, j, none⟩ (.int .i64 x)).setCell ⟨g, k1, none⟩ (.int .i64 y))) := Lib.hid (fun n => by
              obtain ⟨c', m', hr⟩ := HK.out.run
              have hkk := HK1.out
              have hjk : k1 - 1 = j := by omega
              have hrow : CellRow (((wr.drewN n).setCell ⟨g, j, none⟩ (.int .i64 x)).setCell ⟨g, k1, none⟩ (.int .i64 y)) g (ints (((H.set k1 x).set j x).set k1 y)) := by
                rw [← ints_set, ← ints_set]
                exact ((HK.out.row.same (w' := wr.drewN n) rfl (Nat.le_refl _)).set j _ (by rw [ints_length, List.length_set]; omega)).set k1 _ (by rw [List.length_set, ints_length, List.length_set]; exact hjH)
              have e : ((H.set k1 x).set j x).set k1 y = (H.set k1 y).set j x := by
                rw [List.set_comm x y (by omega), List.set_set]
              rw [e] at hrow
              refine ⟨⟨c' + 1, m' + 1, ?_⟩, by rw [List.length_set]; exact HK.out.len, by omega, hrow, ((HK.out.b.trans ⟨rfl, rfl, rfl, Nat.le_refl _, fun _ _ => rfl⟩ : Below w.heap.size w (wr.drewN n)).setCell (p := ⟨g, j, none⟩) HG.out _).setCell (p := ⟨g, k1, none⟩) HG.out _⟩
              rw [← hr, sh_go c' m' (by omega) (by omega) (by rw [hjk, ← HY.out]; exact hxy), hjk, ← HY.out])
            clear HEND
            go_wp2_with fail
            go_quiet (fail)
            go_wp2_with fail
            go_roundw
            case rel => exact ⟨j, _, rfl, HN.out nq⟩
            case measure => have := HK1.out; simp [intOf]; omega
          · have hgt : decide (x < y) = false := decide_eq_false hxy
            have HE : Hid (∀ n, SrtO w.heap.size g l (i + 1) (H.set k1 x) w (wr.drewN n)) := Lib.hid (fun n => by
              obtain ⟨c', m', hr⟩ := HK.out.run
              have hkk := HK1.out
              have hjk : k1 - 1 = j := by omega
              rw [sh_stop c' m' (by omega) (by omega) (by rw [hjk, ← HY.out]; exact hxy)] at hr
              exact HEND.out n _ hr.symm)
            clear HEND
            go_wp2_with fail
            go_quiet (fail)
            go_wp2_with fail
            go_roundw
            case rel => exact ⟨i + 1, _, by omega, by go_num, HE.out nq⟩
            case measure => simp [intOf]; omega
    · have HRES : Hid (RowI (srt l) w (.returned (.slice (some ⟨g, 0, none⟩) l.length cap)) wr) := Lib.hid (by
        obtain ⟨c, m, hr⟩ := HO.out.run
        rw [show l.length - i = 0 by omega] at hr
        have hr2 : M = srt l := hr
        refine ⟨g, cap, by rw [srt_length], by rw [srt_length]; exact hcap, HG.out, ?_, HO.out.b⟩
        rw [← hr2]; exact HO.out.row)
      clear hlM
      go_wp2_with fail
      go_ret
      exact HRES.out

theorem l2Sorted_any (b o cc : Nat) (l : List Int) (w : World) (hv : FlatAt w (.slice (some ⟨b, o, none⟩) l.length cc) l.length (ints l)) (h64 : l.length ≤ 64) :
    Calls Try.prog 121 #[.slice (some ⟨b, o, none⟩) l.length cc] w (RowI (srt l) w) := l2Sorted_big b o cc l w hv (by omega)

end Go.Proofs.Ytagibgphegoagaa
end

section
/- vAt of the laws, by its contract. -/
namespace Go.Proofs.Ytagibgphegoagaa
open Go.RowKit

/-- A byte of the code, or a number in its place. -/
theorem vAt_any (a : Option Addr) (len cap : Nat) (i : Nat) (w : World) (h : Code0 w a len) (hi : i ≤ 1000) (hl : len ≤ 1000000) :
    Calls Try.prog 40 #[.slice a len cap, .int .i64 i] w fun e w' => (∃ r : Int, 0 ≤ r ∧ r ≤ 255 ∧ e = .returned (.int .i64 r)) ∧ w' = w := by
  by_cases hlt : i < len
  · obtain ⟨x, z, hax, hxb, hz, hz0, hz1⟩ := h i hlt
    subst hax
    go_enter Try.func40, Try.ntmps40
    go_wp2
    go_ret
    exact ⟨⟨_, hz0, hz1, rfl⟩, rfl⟩
  · clear h
    go_enter Try.func40, Try.ntmps40
    go_wp2
    go_ret
    exact ⟨⟨_, Int.emod_nonneg _ (by decide), by omega, rfl⟩, rfl⟩

end Go.Proofs.Ytagibgphegoagaa
end

section
/- slices.Concat of lists of numbers, by its contract. -/
namespace Go.Proofs.Ytagibgphegoagaa
open Go.RowKit
set_option linter.unusedVariables false

attribute [local go_sem ↓ high] builtin_append_held

/-- One of the lists: nil, or at an address. -/
structure Part where
  a : Option Addr
  c : Nat
  l : List Int
def Part.val (p : Part) : Value := .slice p.a p.l.length p.c
def Part.ok (p : Part) (w : World) : Prop := FlatAt w p.val p.l.length (ints p.l) ∧ (p.a = none → p.c = 0)
theorem Part.ok.below {p : Part} {w w' : World} (h : p.ok w) (hb : Below w.heap.size w w') : p.ok w' := ⟨h.1.below hb, h.2⟩
def joined (Ps : List Part) : List Int := Ps.flatMap Part.l
theorem joined_take {Ps : List Part} {k : Nat} {p : Part} (h : Ps[k]? = some p) : joined (Ps.take (k + 1)) = joined (Ps.take k) ++ p.l := by
  unfold joined; rw [List.take_add_one, h]; simp
theorem joined_le (Ps : List Part) (k : Nat) : (joined (Ps.take k)).length ≤ (joined Ps).length := by
  have : joined Ps = joined (Ps.take k) ++ joined (Ps.drop k) := by unfold joined; rw [← List.flatMap_append, List.take_append_drop]
  rw [this, List.length_append]; omega

/-- 'append(l, part...)', l maybe nil. -/
theorem appendNP (base : Nat) (v : Value) (L : List Int) (p : Part) (w : World) (h : OwnN base w v L) (hb : base ≤ w.heap.size) (hn : L.length + p.l.length ≤ 2097152) (hp : p.ok w) :
    ∃ v' w', (heldAppend #[34, 34] 34 #[v, .slice p.a p.l.length p.c]).run Try.prog w = .ok v' w' ∧ OwnN base w' v' (L ++ p.l) ∧ Below base w w' := by
  obtain ⟨i0, hi, hz0, hz1, hz2⟩ := info_parts infoIntH
  obtain ⟨a, c, l⟩ := p
  obtain ⟨⟨a', c', e, hc, hl⟩, hz⟩ := hp
  unfold Part.val at e
  simp at e hl hz hn ⊢
  obtain ⟨rfl, rfl⟩ := e
  cases a with
  | none =>
    have hl0 : l = [] := by
      cases l with
      | nil => rfl
      | cons x l => have := hl 0 _ (ints_at (l := x :: l) (k := 0) rfl); simp at this
    subst hl0
    rw [hz rfl]
    refine ⟨v, w, run_append_owned_none (P := Try.prog) (w := w) base 34 34 3 i0 1 Try.underlying34 hi v L.length (ints L) h, by rw [List.append_nil]; exact h, Below.refl _ _⟩
  | some ad =>
    obtain ⟨v', w', hrun, hown, hgrow, hnil⟩ := run_append_own (P := Try.prog) (w := w) base 34 34 3 i0 (.int .i64 0) 1 8 Try.underlying34 hi hz0 hz1 hz2 rfl (by decide)
      v L.length (ints L) h ad l.length c (ints l) (by rw [ints_length, Nat.mul_one]) (fun j u hu => by
        obtain ⟨b, o, e1, _, hcell⟩ := hl j u hu
        simp at e1
        subst e1
        have e : (⟨b, o, none⟩ : Addr).add j = ⟨b, o + j, none⟩ := by
          unfold Addr.add; split
          · rename_i h; subst h; rfl
          · rfl
        rw [e]; exact hcell) (ints_one l) (by unfold maxLen; omega) (by omega) (by omega)
    rw [← ints_append L l, ← show (L ++ l).length = L.length + l.length by simp] at hown
    exact ⟨v', w', hrun, hown, (Below.refl base w).grown hgrow (by omega) (fun j e => (h.lt j e).1)⟩

set_option maxRecDepth 100000 in
set_option maxHeartbeats 4000000 in
theorem growI_any (n : Nat) (hn : n ≤ 2097152) (w : World) :
    Calls Try.prog 182 #[.slice none 0 0, .int .i64 (n : Int)] w fun e w' => ∃ v, e = .returned v ∧ OwnN w.heap.size w' v [] ∧ Below w.heap.size w w' := by
  by_cases h0 : n = 0
  · subst h0
    have HRES : Hid (∀ m, ∃ v, Ending.returned (.slice none 0 0) = .returned v ∧ OwnN w.heap.size (w.drewN m) v [] ∧ Below w.heap.size w (w.drewN m)) := Lib.hid (fun m => ⟨_, rfl, OwnN.nil _ _, ⟨rfl, rfl, rfl, Nat.le_refl _, fun _ _ => rfl⟩⟩)
    go_enter Try.func182, Try.ntmps182
    go_wp2_with fail
    go_ret
    exact HRES.out 0
  · obtain ⟨i0, hi, hz0, hz1, hz2⟩ := info_parts infoIntH
    have hrun := Lib.run_append_nil_zeros (P := Try.prog) w 34 3 34 3 i0 (.int .i64 0) .i64 .i64 Try.underlying34 Try.underlying3 hi hz0 n (by omega) (by omega) (by omega) (by rw [hz2]; omega)
    have hrun2 : (heldAppend #[34, 3] 34 #[.slice none 0 0, .int .i64 (n : Int)]).run Try.prog w = _ := hrun
    have hc1 := grownCap_ge w n 0 3
    have hc2 := grownCap_le_maxLen w n 0 3 (by unfold maxLen; omega)
    generalize hcap : grownCap w n 0 3 = cap at hrun2 hc1 hc2
    have HSZ : (Builtin.zeroCells (Value.int IntKind.i64 0).cells n ++ Builtin.zeroCells (Value.int IntKind.i64 0).cells (cap - n)).size = cap * 1 := by
      rw [Array.size_append, size_zeroCells, size_zeroCells, show (Value.int IntKind.i64 0).cells.size = 1 from rfl]; omega
    generalize hO : (Builtin.zeroCells (Value.int IntKind.i64 0).cells n ++ Builtin.zeroCells (Value.int IntKind.i64 0).cells (cap - n)) = O at hrun2 HSZ
    have HRES : Hid (∃ v, Ending.returned (.slice (some ⟨w.heap.size, 0, none⟩) 0 cap) = .returned v ∧ OwnN w.heap.size (w.drew.alloc (.cells O 3)) v [] ∧ Below w.heap.size w (w.drew.alloc (.cells O 3))) := Lib.hid ⟨_, rfl,
      ⟨rfl, .inr ⟨w.heap.size, cap, O, rfl, Nat.le_refl _, by simpa using heap_alloc_new w.drew (.cells O 3), Nat.zero_le _, hc2, HSZ, by simp [ints]⟩⟩,
      ((Below.refl _ w).drew).alloc (Nat.le_refl _) _⟩
    clear hcap hO HSZ hc1 hc2
    have hn1 : decide ((0 : Int) < (n : Int)) = true := decide_eq_true (by omega)
    have hn2 : (0 : Int) < (n : Int) := by omega
    have hn3 : 0 < n := by omega
    have hnn : ¬ ((n : Int) < 0) := by omega
    clear hrun hi hz0 hz1 hz2 h0
    go_enter Try.func182, Try.ntmps182
    go_wp2_with fail
    go_ret
    exact HRES.out

set_option maxRecDepth 100000 in
set_option maxHeartbeats 4000000 in
theorem concatI_any (pb pc : Nat) (Ps : List Part) (w : World) (hp : ∀ (j : Nat) p, Ps[j]? = some p → w.cell? ⟨pb, j, none⟩ = some p.val ∧ pb < w.heap.size ∧ p.ok w) (hn : (joined Ps).length ≤ 1048576) (hk : Ps.length ≤ 1048576) :
    Calls Try.prog 158 #[.slice (some ⟨pb, 0, none⟩) Ps.length pc] w fun e w' => ∃ v, e = .returned v ∧ OwnN w.heap.size w' v (joined Ps) ∧ Below w.heap.size w w' := by
  have HP := Lib.hid hp
  have HG := Lib.hid (fun W => growI_any (joined Ps).length (by omega) W)
  have HLE := Lib.hid (joined_le Ps)
  clear hp
  go_enter Try.func158, Try.ntmps158
  go_wp2_with fail
  go_loopw [3, 5, 11] (fun sv _ iv wr => ∃ k m : Nat, k ≤ Ps.length ∧ sv = .int .i64 ((joined (Ps.take k)).length : Int) ∧ iv = .int .i64 (k : Int) ∧ wr = w.drewN m) (fun _ _ iv _ => Ps.length - (intOf iv).toNat)
  case atStart => exact ⟨0, 0, Nat.zero_le _, rfl, rfl, rfl⟩
  case round =>
    obtain ⟨k, m, hkl, rfl, rfl, rfl⟩ := hrel
    by_cases hlt : k < Ps.length
    · obtain ⟨p, hp⟩ : ∃ p, Ps[k]? = some p := ⟨_, List.getElem?_eq_getElem hlt⟩
      obtain ⟨hc, _, _⟩ := HP.out k p hp
      have hc' : (w.drewN m).cell? ⟨pb, k, none⟩ = some (.slice p.a p.l.length p.c) := hc
      obtain ⟨s, hs⟩ : ∃ s, s = (joined (Ps.take k)).length := ⟨_, rfl⟩
      have hadd : (joined (Ps.take (k + 1))).length = s + p.l.length := by rw [joined_take hp, List.length_append, hs]
      have hsle : s + p.l.length ≤ 1048576 := by have := HLE.out (k + 1); omega
      rw [← hs]
      have HA := Lib.hid hadd
      have hneg : ¬ ((s : Int) + p.l.length < 0) := by omega
      clear hc hs hadd hp
      go_wp2_with fail
      go_roundw
      case rel => exact ⟨k + 1, m, by omega, by rw [HA.out]; go_num, by go_num, by first | rfl | trivial⟩
      case measure => simp [intOf]; omega
    · obtain rfl : k = Ps.length := by omega
      rw [List.take_length]
      clear hlt
      go_wp2_with fail
      refine (HG.out _).mono ?_
      rintro e w2 ⟨v0, rfl, ho0, hb0⟩
      have HO0 := Lib.hid ho0
      have HB0 : Hid (Below w.heap.size w w2) := Lib.hid ((⟨rfl, rfl, rfl, Nat.le_refl _, fun _ _ => rfl⟩ : Below w.heap.size w (w.drewN m)).trans hb0)
      clear ho0 hb0 HG
      go_wp2_with fail
      go_loopw [6, 8, 27] (fun sv _ iv wr => ∃ k : Nat, k ≤ Ps.length ∧ iv = .int .i64 (k : Int) ∧ OwnN w.heap.size wr sv (joined (Ps.take k)) ∧ Below w.heap.size w wr) (fun _ _ iv _ => Ps.length - (intOf iv).toNat)
      case atStart => exact ⟨0, Nat.zero_le _, rfl, HO0.out, HB0.out⟩
      case round =>
        obtain ⟨k, hkl, rfl, ho, hb⟩ := hrel
        have HO := Lib.hid ho
        have HB := Lib.hid hb
        clear ho hb HO0 HB0
        by_cases hlt : k < Ps.length
        · obtain ⟨p, hp⟩ : ∃ p, Ps[k]? = some p := ⟨_, List.getElem?_eq_getElem hlt⟩
          obtain ⟨hc, hpb, hf⟩ := HP.out k p hp
          have hc' : wr.cell? ⟨pb, k, none⟩ = some (.slice p.a p.l.length p.c) := (HB.out.cell (p := ⟨pb, k, none⟩) hpb).trans hc
          obtain ⟨v', w', hrun, ho', hb'⟩ := appendNP w.heap.size _ _ p wr HO.out HB.out.size (by rw [← List.length_append, ← joined_take hp]; have := HLE.out (k + 1); omega) (hf.below HB.out)
          rw [← joined_take hp] at ho'
          have HO' := Lib.hid ho'
          have HB' := Lib.hid (HB.out.trans hb')
          clear hc hpb hf ho' hb' hp HO HB
          go_wp2_with fail
          go_roundw
          case rel => exact ⟨k + 1, by omega, by go_num, HO'.out, HB'.out⟩
          case measure => simp [intOf]; omega
        · obtain rfl : k = Ps.length := by omega
          have HRES : Hid (OwnN w.heap.size wr _ (joined Ps)) := Lib.hid (by have h := HO.out; rw [List.take_length] at h; exact h)
          clear hlt HO
          go_wp2_with fail
          go_ret
          exact ⟨_, rfl, HRES.out, HB.out⟩

end Go.Proofs.Ytagibgphegoagaa
end

section
/- Answers whose list may be nil where it has no length. -/
namespace Go.Proofs.Ytagibgphegoagaa
open Go.RowKit
set_option linter.unusedVariables false

def RetZ1 (r : List Int × Int × Bool) (w : World) (e : Ending) (w' : World) : Prop :=
  ∃ a c, e = .returned (.tuple #[.slice a 0 c, .int .i64 r.2.1, .bool r.2.2]) ∧ Below w.heap.size w w'
def RetZ2 (r : List Int × Int × Int × Bool) (w : World) (e : Ending) (w' : World) : Prop :=
  ∃ a c, e = .returned (.tuple #[.slice a 0 c, .int .i64 r.2.1, .int .i64 r.2.2.1, .bool r.2.2.2]) ∧ Below w.heap.size w w'
theorem RetI1.zero {r : List Int × Int × Bool} {w w' : World} {e : Ending} (h : RetI1 r w e w') (h0 : r.1 = []) : RetZ1 r w e w' := by
  obtain ⟨g, c, rfl, _, _, _, hb⟩ := h
  exact ⟨Option.some ⟨g, 0, Option.none⟩, c, by rw [h0]; rfl, hb⟩
theorem RetI2.zero {r : List Int × Int × Int × Bool} {w w' : World} {e : Ending} (h : RetI2 r w e w') (h0 : r.1 = []) : RetZ2 r w e w' := by
  obtain ⟨g, c, rfl, _, _, _, hb⟩ := h
  exact ⟨Option.some ⟨g, 0, Option.none⟩, c, by rw [h0]; rfl, hb⟩
/-- Either: its own list; or no length. -/
def RetE1 (r : List Int × Int × Bool) (w : World) (e : Ending) (w' : World) : Prop := RetI1 r w e w' ∨ (r.1 = [] ∧ RetZ1 r w e w' ∧ ∀ c, e = .returned (.tuple #[.slice none 0 c, .int .i64 r.2.1, .bool r.2.2]) → c = 0)
def RetE2 (r : List Int × Int × Int × Bool) (w : World) (e : Ending) (w' : World) : Prop := RetI2 r w e w' ∨ (r.1 = [] ∧ RetZ2 r w e w')
theorem RetE1.own {r : List Int × Int × Bool} {w w' : World} {e : Ending} (h : RetE1 r w e w') (h0 : r.1 ≠ []) : RetI1 r w e w' := by
  rcases h with h | ⟨h, _⟩
  · exact h
  · exact absurd h h0
theorem RetE1.zero {r : List Int × Int × Bool} {w w' : World} {e : Ending} (h : RetE1 r w e w') (h0 : r.1 = []) : RetZ1 r w e w' := by
  rcases h with h | ⟨_, h, _⟩
  · exact h.zero h0
  · exact h
theorem RetE2.own {r : List Int × Int × Int × Bool} {w w' : World} {e : Ending} (h : RetE2 r w e w') (h0 : r.1 ≠ []) : RetI2 r w e w' := by
  rcases h with h | ⟨h, _⟩
  · exact h
  · exact absurd h h0
theorem RetE2.zero {r : List Int × Int × Int × Bool} {w w' : World} {e : Ending} (h : RetE2 r w e w') (h0 : r.1 = []) : RetZ2 r w e w' := by
  rcases h with h | ⟨_, h⟩
  · exact h.zero h0
  · exact h

end Go.Proofs.Ytagibgphegoagaa
end

section
/- Four results. -/
namespace Go.Proofs.Ytagibgphegoagaa
open Go.RowKit
theorem results_tmp4 {fn : Func} {t u v x : Tmp} (h : fn.results = #[.tmp t, .tmp u, .tmp v, .tmp x]) (tmps : Array Value) (P : Program) (w : World) :
    (results fn tmps).run P w = .ok (.tuple #[tmps.getD t undef, tmps.getD u undef, tmps.getD v undef, tmps.getD x undef]) w := by
  simp [results, h]
end Go.Proofs.Ytagibgphegoagaa
end

section
/- The answer of an invalid call: no list. -/
namespace Go.Proofs.Ytagibgphegoagaa
open Go.RowKit
set_option linter.unusedVariables false

theorem RetCE.nil0 (w w1 : World) (hb : Below w.heap.size w w1) : RetCE ([], false) w (.returned (.tuple #[.slice none 0 0, .bool false])) w1 := .inr ⟨rfl, _, _, rfl, hb⟩
theorem Ret1CE.nil0 (w w1 : World) (hb : Below w.heap.size w w1) : Ret1CE ([], 0, false) w (.returned (.tuple #[.slice none 0 0, .int .i64 0, .bool false])) w1 := .inr ⟨rfl, _, _, rfl, hb⟩
theorem RetIE.nil0 (w w1 : World) (hb : Below w.heap.size w w1) : RetIE ([], false) w (.returned (.tuple #[.slice none 0 0, .bool false])) w1 := .inr ⟨rfl, _, _, rfl, hb⟩

end Go.Proofs.Ytagibgphegoagaa
end

section
/- A partial sort, pure: the sorting permutation with its end in the order of the indices. Nothing of the program. -/
namespace Go.Proofs.Ytagibgphegoagaa
open P El Qk
set_option linter.unusedVariables false
namespace Sl

/-- Does x come before i? -/
def lxi (K : List Int) (i : Int) (x : Int) : Bool := decide (keyOf K x < keyOf K i) || (decide (keyOf K x = keyOf K i) && decide (x < i))
/-- The rank of i. -/
def rkI (K : List Int) (n : Nat) (i : Int) : Nat := (iota n).countP (lxi K i)

theorem idx_rkI (K : List Int) (n : Nat) {m : Nat} {i : Int} (hm : (sortTo K n)[m]? = some i) : rkI K n i = m := by
  have hp := sortTo_perm K n
  have hx := sortTo_lex K n
  unfold rkI
  rw [← hp.countP_eq]
  generalize sortTo K n = P at *
  obtain ⟨hml, he⟩ := List.getElem?_eq_some_iff.1 hm
  have e : P = P.take m ++ P.drop m := (List.take_append_drop m P).symm
  have h1 : (P.take m).countP (lxi K i) = m := by
    have hall : ∀ a ∈ P.take m, lxi K i a = true := by
      intro a ha
      obtain ⟨j, hj, rfl⟩ := List.getElem_of_mem ha
      have hj' : j < m := by simp at hj; omega
      have := List.pairwise_iff_getElem.1 hx j m (by omega) hml hj'
      rw [he] at this
      rw [List.getElem_take]
      unfold lxi
      rcases this with h | ⟨h, h2⟩
      · simp [h]
      · simp [h, h2]
    rw [List.countP_eq_length.2 hall, List.length_take]; omega
  have h2 : (P.drop m).countP (lxi K i) = 0 := by
    rw [List.countP_eq_zero]
    intro a ha
    obtain ⟨j, hj, rfl⟩ := List.getElem_of_mem ha
    rw [List.getElem_drop]
    have hjl : m + j < P.length := by simp at hj; omega
    unfold lxi
    cases j with
    | zero => simp [he]
    | succ j =>
      have := List.pairwise_iff_getElem.1 hx m (m + (j + 1)) hml hjl (by omega)
      rw [he] at this
      generalize P[m + (j + 1)] = z at *
      simp only [Bool.or_eq_true, Bool.and_eq_true, decide_eq_true_eq]
      omega
  conv => lhs; rw [e]
  rw [List.countP_append, h1, h2]; omega

/-- The end of the sorting permutation, put in order: the indices of rank k and more. -/
theorem srt_drop (K : List Int) (n k : Nat) : srt ((sortTo K n).drop k) = (iota n).filter (fun i => decide (k ≤ rkI K n i)) := by
  refine asc_eq (srt_asc _) ?_ ?_
  · exact ((iota_sorted n).filter _).imp (fun h => Int.le_of_lt h)
  · refine (srt_perm _).trans ?_
    have hp := sortTo_perm K n
    have hnd : (sortTo K n).Nodup := hp.nodup_iff.2 (iota_nodup n)
    refine (List.perm_ext_iff_of_nodup (hnd.sublist (List.drop_sublist _ _)) ((iota_nodup n).filter _)).2 fun a => ?_
    rw [List.mem_filter]
    constructor
    · intro h
      obtain ⟨j, hj, rfl⟩ := List.getElem_of_mem h
      have hjl : k + j < (sortTo K n).length := by simp at hj; omega
      rw [List.getElem_drop]
      refine ⟨hp.mem_iff.1 (List.getElem_mem _), ?_⟩
      rw [idx_rkI K n (List.getElem?_eq_getElem hjl)]
      simp
    · rintro ⟨h1, h2⟩
      obtain ⟨m, hm, rfl⟩ := List.getElem_of_mem (hp.mem_iff.2 h1)
      rw [idx_rkI K n (List.getElem?_eq_getElem hm)] at h2
      have h3 : k ≤ m := by simpa using h2
      rw [List.mem_iff_getElem]
      refine ⟨m - k, by simp; omega, ?_⟩
      rw [List.getElem_drop]
      congr 1; omega

theorem pickAt_append (l a b : List Int) : pickAt l (a ++ b) = pickAt l a ++ pickAt l b := by unfold pickAt; rw [List.map_append]
theorem pickAt_perm {l a b : List Int} (h : a.Perm b) : (pickAt l a).Perm (pickAt l b) := h.map _
theorem pick_sorted (l : List Int) : pickAt l (sortTo l l.length) = srt l := by
  refine srt_uniq ?_ ?_
  · unfold pickAt
    rw [show Asc ((sortTo l l.length).map fun i => l.getD i.toNat 0) ↔ _ from List.pairwise_map]
    refine (sortTo_lex l l.length).imp fun h => ?_
    unfold keyOf at h
    omega
  · have := pickAt_perm (l := l) (sortTo_perm l l.length)
    rwa [pickAt_iota] at this

/-- The partial sort. -/
def psF (l : List Int) (k : Nat) : List Int := pickAt l ((sortTo l l.length).take k ++ srt ((sortTo l l.length).drop k))
theorem psF_eq (l : List Int) (k : Nat) : psF l k = (srt l).take k ++ pickAt l ((iota l.length).filter (fun i => decide (k ≤ rkI l l.length i))) := by
  unfold psF
  rw [pickAt_append, srt_drop]
  congr 1
  rw [← pick_sorted l]
  unfold pickAt
  rw [List.map_take]
theorem psF_perm (l : List Int) (k : Nat) : (psF l k).Perm l := by
  unfold psF
  have h : ((sortTo l l.length).take k ++ srt ((sortTo l l.length).drop k)).Perm (iota l.length) :=
    ((List.Perm.refl _).append (srt_perm _)).trans (by rw [List.take_append_drop]; exact sortTo_perm l l.length)
  have := pickAt_perm (l := l) h
  rwa [pickAt_iota] at this
theorem psF_length (l : List Int) (k : Nat) : (psF l k).length = l.length := (psF_perm l k).length_eq
/-- What the model has gathered: the smallest, and of the first i elements those of greater rank. -/
def psTo (l : List Int) (k i : Nat) : List Int := (srt l).take k ++ pickAt l ((iota i).filter (fun j => decide (k ≤ rkI l l.length j)))
theorem psTo_all (l : List Int) (k : Nat) : psTo l k l.length = psF l k := (psF_eq l k).symm
theorem psTo_zero (l : List Int) (k : Nat) : psTo l k 0 = (srt l).take k := by simp [psTo, iota, pickAt]
theorem psTo_yes {l : List Int} {k i : Nat} (h : k ≤ rkI l l.length (i : Int)) : psTo l k (i + 1) = psTo l k i ++ [l.getD i 0] := by
  unfold psTo
  rw [iota_succ, List.filter_append, pickAt_append, ← List.append_assoc]
  simp [h, pickAt]
theorem psTo_no {l : List Int} {k i : Nat} (h : ¬ k ≤ rkI l l.length (i : Int)) : psTo l k (i + 1) = psTo l k i := by
  unfold psTo
  rw [iota_succ, List.filter_append, pickAt_append]
  simp [h, pickAt]
theorem psTo_len (l : List Int) (k i : Nat) : (psTo l k i).length ≤ l.length + i := by
  unfold psTo
  rw [List.length_append, List.length_take, pickAt_length, srt_length]
  have := List.length_filter_le (fun j => decide (k ≤ rkI l l.length j)) (iota i)
  rw [iota_length] at this
  omega
/-- The rank so far: among the first j. -/
def rkTo (l : List Int) (i j : Nat) : Nat := (iota j).countP (lxi l (i : Int))
theorem rkTo_succ (l : List Int) (i j : Nat) : rkTo l i (j + 1) = rkTo l i j + if l.getD j 0 < l.getD i 0 ∨ (l.getD j 0 = l.getD i 0 ∧ j < i) then 1 else 0 := by
  unfold rkTo
  rw [iota_succ, List.countP_append, List.countP_singleton]
  congr 1
  unfold lxi keyOf
  simp only [Int.toNat_natCast]
  by_cases h : l.getD j 0 < l.getD i 0 ∨ (l.getD j 0 = l.getD i 0 ∧ j < i)
  · rw [if_pos h, if_pos]
    simp only [Bool.or_eq_true, Bool.and_eq_true, decide_eq_true_eq]
    omega
  · rw [if_neg h, if_neg]
    intro hh
    apply h
    simp only [Bool.or_eq_true, Bool.and_eq_true, decide_eq_true_eq] at hh
    omega
theorem rkTo_le (l : List Int) (i j : Nat) : rkTo l i j ≤ j := by
  unfold rkTo
  have := List.countP_le_length (p := lxi l (i : Int)) (l := iota j)
  rwa [iota_length] at this

def OkPs (l : List Int) (k : Int) : Prop := OkL l ∧ 0 ≤ k ∧ k ≤ l.length
instance (l : List Int) (k : Int) : Decidable (OkPs l k) := by unfold OkPs; exact inferInstance
def psAll (l : List Int) (k : Int) : List Int × Bool := if OkPs l k then (psF l k.toNat, true) else ([], false)
theorem psAll_yes {l : List Int} {k : Nat} (h : OkL l) (hk : k ≤ l.length) : psAll l k = (psF l k, true) := if_pos ⟨h, by omega, by omega⟩
theorem psAll_no {l : List Int} {k : Int} (h : ¬ OkPs l k) : psAll l k = ([], false) := if_neg h
theorem psAll_len (l : List Int) (k : Int) : (psAll l k).1.length ≤ 1048576 := by
  unfold psAll
  split
  · rename_i h
    have := h.1.1
    simp only [psF_length]; omega
  · simp

end Sl
end Go.Proofs.Ytagibgphegoagaa
end

section
/- The program's SortingPermutation, by its contract. -/
namespace Go.Proofs.Ytagibgphegoagaa
open Go.RowKit Go.Sort Go.Lib StC P

/-- Indices as elements of a finite type. -/
def fins (NN : Nat) : List (Fin (NN + 1)) := List.finRange (NN + 1)
def valsF {NN : Nat} (L : List (Fin (NN + 1))) : List Int := L.map fun x => (x.val : Int)
theorem valsF_length {NN : Nat} (L : List (Fin (NN + 1))) : (valsF L).length = L.length := by simp [valsF]
theorem valsF_fins (NN : Nat) : valsF (fins NN) = iota (NN + 1) := by
  unfold valsF fins
  apply List.ext_getElem?
  intro j
  by_cases hj : j < NN + 1
  · rw [iota_at hj]; simp [hj]
  · rw [List.getElem?_eq_none (by simp; omega), List.getElem?_eq_none (by rw [iota_length]; omega)]
theorem fins_length (NN : Nat) : (fins NN).length = NN + 1 := by simp [fins]

theorem flat_fins {NN : Nat} (L : List (Fin (NN + 1))) : flatK encF 1 L.toArray = (ints (valsF L)).toArray := by
  refine ext_get! (by simp [ints_length, valsF_length]) fun t ht => ?_
  have ht' : t < L.toArray.size * 1 := by simpa using ht
  rw [get_flatK _ _ _ _ ht']
  have hd : t < L.length := by simpa using ht'
  have h2 : t < (ints (valsF L)).length := by rw [ints_length, valsF_length]; exact hd
  simp only [Nat.div_one, Nat.mod_one]
  rw [show L.toArray[t]! = L[t] by simp [hd], show (ints (valsF L)).toArray[t]! = (ints (valsF L))[t] by simp [h2]]
  simp [ints, valsF, encF]

theorem holdsF_of_row {NN : Nat} {w : World} {g : Nat} {L : List (Fin (NN + 1))} (h : CellRow w g (ints (valsF L))) : HoldsK encF 1 w g 0 L.toArray := by
  unfold HoldsK
  rw [flat_fins]
  intro j hj
  have hj' : j < (ints (valsF L)).length := by simpa using hj
  have := h.2 j _ (List.getElem?_eq_getElem hj')
  rw [Nat.zero_add]
  have e : (ints (valsF L)).toArray[j]! = (ints (valsF L))[j] := by simp [hj']
  show _ = some (id ((ints (valsF L)).toArray[j]!)) ∧ _
  rw [e]; exact this

theorem row_of_sortedF {NN : Nat} {w0 w : World} {g : Nat} {d0 : Array (Fin (NN + 1))} {M : List (Fin (NN + 1))} (R : RowK encF 1 w0 g 0 d0) (S : SWK encF 1 w0 g 0 M.toArray w) (hs : M.length = d0.size) : CellRow w g (ints (valsF M)) := by
  have h := S.holds R.hblk R.hH (by simpa using hs)
  unfold HoldsK at h
  rw [flat_fins] at h
  refine ⟨S.lt R.hblk, fun j u hu => ?_⟩
  obtain ⟨hj, e⟩ := List.getElem?_eq_some_iff.1 hu
  have := h j (by simpa using hj)
  rw [Nat.zero_add] at this
  have e2 : (ints (valsF M)).toArray[j]! = u := by simp [hj, e]
  have e3 : id ((ints (valsF M)).toArray[j]!) = u := e2
  rw [e3] at this
  exact this

theorem but_of_sortedF {NN : Nat} {w0 w : World} {g : Nat} {d : Array (Fin (NN + 1))} (S : SWK encF 1 w0 g 0 d w) : But g w0 w := by
  obtain ⟨n, os, rfl⟩ := S
  refine ⟨rfl, rfl, rfl, ?_, fun k hk hg => ?_⟩
  · unfold sortWorldK; rw [size_grow, size_putRowK]; exact Nat.le_add_right _ _
  · unfold sortWorldK
    rw [heap_grow_old _ _ (by rw [size_putRowK]; exact hk)]
    show (w0.heap.modify g _)[k]? = _
    rw [Array.getElem?_modify, if_neg (fun e => hg e.symm)]

/-- The stable arrangement of all the indices under a comparison of them. -/
theorem arrange_any {NN : Nat} (cf : Fin (NN + 1) → Fin (NN + 1) → Int) (hO : SWO (ltOf cf)) (gf : Nat) (cb : Array Value) (eg : ∀ args w, (callFunc gf args).run Try.prog w = .ok (.enter gf args) w) (b c : Nat) (w : World) (hr : CellRow w b (ints (iota (NN + 1)))) (hn : NN + 1 ≤ 1048576)
    (hC : ∀ (W : World), Below w.heap.size w W → ∀ x y : Fin (NN + 1), Calls Try.prog gf (#[.int .i64 (x.val : Int), .int .i64 (y.val : Int)] ++ cb) W fun e w' => e = .returned (.int .i64 (cf x y)) ∧ ∃ q os', w' = grow (W.drewN q) os') (hcap : NN + 1 ≤ c) :
    Calls Try.prog 134 #[.slice (some ⟨b, 0, none⟩) (NN + 1) c, .func (.func gf) #[] cb] w fun e w' =>
      ∃ (g cg : Nat) (M : List (Fin (NN + 1))), e = .returned (.slice (some ⟨g, 0, none⟩) (NN + 1) cg) ∧ NN + 1 ≤ cg ∧ w.heap.size ≤ g ∧ CellRow w' g (ints (valsF M)) ∧ St (ltOf cf) (fins NN) M ∧ Below w.heap.size w w' := by
  have hil : (iota (NN + 1)).length = NN + 1 := iota_length _
  have HCL := Lib.hid (by have := cloneInts_any b 0 c (iota (NN + 1)) w (by have := hr.flat (c := c) (n := NN + 1) hcap; rw [hil]; exact this) (by rw [hil]; exact hn); rw [hil] at this; exact this)
  have HS := Lib.hid (fun (g cap : Nat) (W : World) (hw : Below w.heap.size w W) (hg : w.heap.size ≤ g) (hr : CellRow W g (ints (valsF (fins NN)))) => sortStableF cf hO gf cb g 0 cap (fins NN).toArray W ⟨fun _ => rfl, fun x v hv => by simp [encF] at hv; subst hv; rfl, holdsF_of_row hr, hr.1⟩ (by rw [List.size_toArray, fins_length]; omega) eg
    (fun m os dk _ x y => hC _ (hw.trans ((but_of_sortedF (d := dk) ⟨m, os, rfl⟩).below hg hw.size)) x y) (by rw [List.size_toArray, fins_length]; omega) (fins NN) W (by simp) (SWK.start (holdsF_of_row hr)))
  have HW := Lib.hid (fun (g : Nat) (W w' : World) (M : List (Fin (NN + 1))) (hr : CellRow W g (ints (valsF (fins NN)))) (hS : SWK encF 1 W g 0 M.toArray w') (hl : M.length = (fins NN).length) => row_of_sortedF (d0 := (fins NN).toArray) ⟨fun _ => rfl, fun x v hv => by simp [encF] at hv; subst hv; rfl, holdsF_of_row hr, hr.1⟩ hS (by simpa using hl))
  clear eg hC hr hil
  go_enter Try.func134, Try.ntmps134
  go_wp2_with fail
  refine (HCL.out).mono ?_
  rintro e w1 ⟨g, cap, rfl, hcp, hg, hrow, hb⟩
  rw [iota_length] at hcp ⊢
  rw [← valsF_fins] at hrow
  have HG := Lib.hid hg
  have HR := Lib.hid hrow
  have HB := Lib.hid hb
  have HQ := Lib.hid (HS.out g cap w1 hb hg hrow)
  rw [List.size_toArray, fins_length] at HQ
  clear hg hrow hb HCL HS
  go_wp2_with fail
  refine (HQ.out).mono ?_
  rintro e w2 ⟨rfl, M, hM, hS⟩
  have HRES : Hid (∃ (g' cg : Nat) (M : List (Fin (NN + 1))), Ending.returned (.slice (some ⟨g, 0, none⟩) (NN + 1) cap) = .returned (.slice (some ⟨g', 0, none⟩) (NN + 1) cg) ∧ NN + 1 ≤ cg ∧ w.heap.size ≤ g' ∧ CellRow w2 g' (ints (valsF M)) ∧ St (ltOf cf) (fins NN) M ∧ Below w.heap.size w w2) :=
    Lib.hid ⟨g, cap, M, rfl, hcp, HG.out, HW.out g w1 w2 M HR.out hS hM.len, hM, HB.out.trans ((but_of_sortedF hS).below HG.out HB.out.size)⟩
  clear hM hS HQ HW
  go_wp2_with fail
  go_ret
  exact HRES.out

end Go.Proofs.Ytagibgphegoagaa
end

section
/- The draws of lists of numbers (ints), by their contract, never nil. -/
namespace Go.Proofs.Ytagibgphegoagaa
open Go.RowKit

attribute [local go_sem ↓ high] builtin_append_held

theorem Held.butH {w w' : World} {base g : Nat} {v : Value} {L : List Int} (h : Held base w v L) (hb : But g w w') (hB : g < base) : Held base w' v L := ⟨own_but h.1 hb hB, h.2⟩

/-- A short valid list. -/
def IntsCH (B g : Nat) (a : Option Addr) (len cap : Nat) (m : Nat) (w : World) (e : Ending) (w' : World) : Prop :=
  ∃ (v : Value) (l : List Int), l.length ≤ 24 ∧ (∀ x ∈ l, -100000 ≤ x ∧ x ≤ 100000) ∧ e = .returned v ∧ Held w.heap.size w' v l ∧ Cur B g a len cap (m + 200) w' ∧ But g w w'

set_option maxRecDepth 100000 in
set_option maxHeartbeats 4000000 in
theorem intsH_any (B g : Nat) (a : Option Addr) (len cap : Nat) (m : Nat) (w : World) (h : Cur B g a len cap m w) (hm : m ≤ 900000) :
    Calls Try.prog 162 #[.pointer (some ⟨g, 0, none⟩)] w (IntsCH B g a len cap m w) := by
  have H := Lib.hid h
  have hgl := h.lt
  clear h
  go_enter Try.func162, Try.ntmps162
  go_wp2_with fail
  refine (pick_any B g a len cap m 9 _ (H.out.alloc _) (by omega) (by omega)).mono ?_
  rintro e w1 ⟨n, hn0, hn1, rfl, hc, hb⟩
  obtain ⟨n, rfl⟩ : ∃ k : Nat, n = k := ⟨n.toNat, by omega⟩
  have hn : n ≤ 8 := by omega
  have HC1 := Lib.hid hc
  have HB1 := Lib.hid ((But.alloc g w (.cells #[] 3)).trans hb)
  have HO1 : Hid (Held w.heap.size w1 (.slice (some ⟨w.heap.size, 0, none⟩) 0 0) []) := Lib.hid (Held.butH (Held.start w w.heap.size (Nat.le_refl _)) hb hgl)
  clear hc hb hn0 hn1 H
  go_wp2_with fail
  refine (one_any B g a len cap _ 6 _ HC1.out (by omega) (by omega)).mono ?_
  rintro e w2 ⟨b, rfl, hc, hb⟩
  have HC2 := Lib.hid hc
  have HB2 := Lib.hid (HB1.out.trans hb)
  have HO2 := Lib.hid (Held.butH HO1.out hb hgl)
  clear hc hb HC1 HB1 HO1
  cases b
  · go_wp2_with fail
    go_loopw [3, 4] (fun v n wr => ∃ (k : Nat) (L : List Int), n = .int .i64 k ∧ k + L.length ≤ 24 ∧ (∀ x ∈ L, -100000 ≤ x ∧ x ≤ 100000) ∧ Held w.heap.size wr v L ∧ Cur B g a len cap (m + 8 + 4 * L.length) wr ∧ But g w wr) (fun _ n _ => (intOf n).toNat)
    case atStart => exact ⟨n, [], rfl, by simp; omega, by simp, HO2.out, HC2.out.more (by omega), HB2.out⟩
    case round =>
      obtain ⟨k, L, rfl, hkL, hall, hrow, hcur, hb⟩ := hrel
      have HALL := Lib.hid hall
      have HROW := Lib.hid hrow
      have HCUR := Lib.hid hcur
      have HB := Lib.hid hb
      clear hall hrow hcur hb HO2 HC2 HB2
      by_cases hk : 0 < k
      · have hk1 : ((k : Int) - 1) = ((k - 1 : Nat) : Int) := by omega
        go_wp2_with fail
        refine (one_any B g a len cap _ 8 _ HCUR.out (by omega) (by omega)).mono ?_
        rintro e w4 ⟨b, rfl, hc, hb⟩
        have HC4 := Lib.hid hc
        have HB4 := Lib.hid (HB.out.trans hb)
        have HO4 := Lib.hid (Held.butH HROW.out hb hgl)
        clear hc hb HROW HCUR HB
        cases b
        · go_wp2_with fail
          refine (pick_any B g a len cap _ 7 _ HC4.out (by omega) (by omega)).mono ?_
          rintro e w5 ⟨x, hx0, hx1, rfl, hc, hb⟩
          have hx : -100000 ≤ x ∧ x ≤ 100000 := by omega
          have HC5 := Lib.hid hc
          have HB5 := Lib.hid (HB4.out.trans hb)
          have hs5 := HB5.out.size
          obtain ⟨v', w6, hrun, hown, hbel⟩ := appendOne w.heap.size _ L x w5 (Held.butH HO4.out hb hgl) hs5 (by omega)
          have HO6 := Lib.hid hown
          have HC6 := Lib.hid (HC5.out.keep (hbel.mono (show g + 1 ≤ w.heap.size by omega)))
          have HB6 := Lib.hid (HB5.out.then_below hbel)
          have HA6 : Hid (∀ y ∈ L ++ [x], -100000 ≤ y ∧ y ≤ 100000) := Lib.hid (fun y hy => by
            rcases List.mem_append.1 hy with h | h
            · exact HALL.out y h
            · rw [List.mem_singleton.1 h]; exact hx)
          clear hc hb hown hbel HC4 HB4 HO4 HC5 HB5 hx0 hx1 HALL hx
          go_wp2_with fail
          go_roundw
          case rel => exact ⟨k - 1, L ++ [x], rfl, by simp; omega, HA6.out, HO6.out, HC6.out.more (by simp; omega), HB6.out⟩
          case measure => simp [intOf]; omega
        · go_wp2_with fail
          refine (among_lit B g a len cap _ [100000, -100000, 999, -5] 4 _ _ rfl rfl _ HC4.out (by omega) (by decide) (by decide)).mono ?_
          rintro e w5 ⟨y, hy, rfl, hc, hb⟩
          obtain ⟨x, hz, rfl⟩ := List.mem_map.1 hy
          have hx : -100000 ≤ x ∧ x ≤ 100000 := by simp only [List.mem_cons, List.not_mem_nil, or_false] at hz; omega
          have HC5 := Lib.hid hc
          have HB5 := Lib.hid (HB4.out.trans hb)
          have hs5 := HB5.out.size
          obtain ⟨v', w6, hrun, hown, hbel⟩ := appendOne w.heap.size _ L x w5 (Held.butH HO4.out hb hgl) hs5 (by omega)
          have HO6 := Lib.hid hown
          have HC6 := Lib.hid (HC5.out.keep (hbel.mono (show g + 1 ≤ w.heap.size by omega)))
          have HB6 := Lib.hid (HB5.out.then_below hbel)
          have HA6 : Hid (∀ y ∈ L ++ [x], -100000 ≤ y ∧ y ≤ 100000) := Lib.hid (fun y hy => by
            rcases List.mem_append.1 hy with h | h
            · exact HALL.out y h
            · rw [List.mem_singleton.1 h]; exact hx)
          clear hc hb hown hbel HC4 HB4 HO4 HC5 HB5 hy hz HALL hx
          go_wp2_with fail
          go_roundw
          case rel => exact ⟨k - 1, L ++ [x], rfl, by simp; omega, HA6.out, HO6.out, HC6.out.more (by simp; omega), HB6.out⟩
          case measure => simp [intOf]; omega
      · obtain rfl : k = 0 := by omega
        have HQ : Hid (∀ v, Held w.heap.size wr v L → IntsCH B g a len cap m w (.returned v) wr) := Lib.hid (fun v hv => ⟨v, L, by omega, HALL.out, rfl, hv, HCUR.out.more (by omega), HB.out⟩)
        go_wp2_with fail
        go_ret
        exact HQ.out _ HROW.out
  · go_wp2_with fail
    refine (pick_any B g a len cap _ 24 _ HC2.out (by omega) (by omega)).mono ?_
    rintro e w3 ⟨n2, hn0, hn1, rfl, hc, hb⟩
    obtain ⟨n2, rfl⟩ : ∃ k : Nat, n2 = k := ⟨n2.toNat, by omega⟩
    have hn2 : n2 ≤ 24 := by omega
    have HC3 := Lib.hid hc
    have HB3 := Lib.hid (HB2.out.trans hb)
    have HO3 := Lib.hid (Held.butH HO2.out hb hgl)
    clear hc hb HC2 HB2 HO2 hn0 hn1
    go_wp2_with fail
    go_loopw [3, 4] (fun v n wr => ∃ (k : Nat) (L : List Int), n = .int .i64 k ∧ k + L.length ≤ 24 ∧ (∀ x ∈ L, -100000 ≤ x ∧ x ≤ 100000) ∧ Held w.heap.size wr v L ∧ Cur B g a len cap (m + 8 + 4 * L.length) wr ∧ But g w wr) (fun _ n _ => (intOf n).toNat)
    case atStart => exact ⟨n2, [], rfl, by simp; omega, by simp, HO3.out, HC3.out.more (by omega), HB3.out⟩
    case round =>
      obtain ⟨k, L, rfl, hkL, hall, hrow, hcur, hb⟩ := hrel
      have HALL := Lib.hid hall
      have HROW := Lib.hid hrow
      have HCUR := Lib.hid hcur
      have HB := Lib.hid hb
      clear hall hrow hcur hb HO3 HC3 HB3
      by_cases hk : 0 < k
      · have hk1 : ((k : Int) - 1) = ((k - 1 : Nat) : Int) := by omega
        go_wp2_with fail
        refine (one_any B g a len cap _ 8 _ HCUR.out (by omega) (by omega)).mono ?_
        rintro e w4 ⟨b, rfl, hc, hb⟩
        have HC4 := Lib.hid hc
        have HB4 := Lib.hid (HB.out.trans hb)
        have HO4 := Lib.hid (Held.butH HROW.out hb hgl)
        clear hc hb HROW HCUR HB
        cases b
        · go_wp2_with fail
          refine (pick_any B g a len cap _ 7 _ HC4.out (by omega) (by omega)).mono ?_
          rintro e w5 ⟨x, hx0, hx1, rfl, hc, hb⟩
          have hx : -100000 ≤ x ∧ x ≤ 100000 := by omega
          have HC5 := Lib.hid hc
          have HB5 := Lib.hid (HB4.out.trans hb)
          have hs5 := HB5.out.size
          obtain ⟨v', w6, hrun, hown, hbel⟩ := appendOne w.heap.size _ L x w5 (Held.butH HO4.out hb hgl) hs5 (by omega)
          have HO6 := Lib.hid hown
          have HC6 := Lib.hid (HC5.out.keep (hbel.mono (show g + 1 ≤ w.heap.size by omega)))
          have HB6 := Lib.hid (HB5.out.then_below hbel)
          have HA6 : Hid (∀ y ∈ L ++ [x], -100000 ≤ y ∧ y ≤ 100000) := Lib.hid (fun y hy => by
            rcases List.mem_append.1 hy with h | h
            · exact HALL.out y h
            · rw [List.mem_singleton.1 h]; exact hx)
          clear hc hb hown hbel HC4 HB4 HO4 HC5 HB5 hx0 hx1 HALL hx
          go_wp2_with fail
          go_roundw
          case rel => exact ⟨k - 1, L ++ [x], rfl, by simp; omega, HA6.out, HO6.out, HC6.out.more (by simp; omega), HB6.out⟩
          case measure => simp [intOf]; omega
        · go_wp2_with fail
          refine (among_lit B g a len cap _ [100000, -100000, 999, -5] 4 _ _ rfl rfl _ HC4.out (by omega) (by decide) (by decide)).mono ?_
          rintro e w5 ⟨y, hy, rfl, hc, hb⟩
          obtain ⟨x, hz, rfl⟩ := List.mem_map.1 hy
          have hx : -100000 ≤ x ∧ x ≤ 100000 := by simp only [List.mem_cons, List.not_mem_nil, or_false] at hz; omega
          have HC5 := Lib.hid hc
          have HB5 := Lib.hid (HB4.out.trans hb)
          have hs5 := HB5.out.size
          obtain ⟨v', w6, hrun, hown, hbel⟩ := appendOne w.heap.size _ L x w5 (Held.butH HO4.out hb hgl) hs5 (by omega)
          have HO6 := Lib.hid hown
          have HC6 := Lib.hid (HC5.out.keep (hbel.mono (show g + 1 ≤ w.heap.size by omega)))
          have HB6 := Lib.hid (HB5.out.then_below hbel)
          have HA6 : Hid (∀ y ∈ L ++ [x], -100000 ≤ y ∧ y ≤ 100000) := Lib.hid (fun y hy => by
            rcases List.mem_append.1 hy with h | h
            · exact HALL.out y h
            · rw [List.mem_singleton.1 h]; exact hx)
          clear hc hb hown hbel HC4 HB4 HO4 HC5 HB5 hy hz HALL hx
          go_wp2_with fail
          go_roundw
          case rel => exact ⟨k - 1, L ++ [x], rfl, by simp; omega, HA6.out, HO6.out, HC6.out.more (by simp; omega), HB6.out⟩
          case measure => simp [intOf]; omega
      · obtain rfl : k = 0 := by omega
        have HQ : Hid (∀ v, Held w.heap.size wr v L → IntsCH B g a len cap m w (.returned v) wr) := Lib.hid (fun v hv => ⟨v, L, by omega, HALL.out, rfl, hv, HCUR.out.more (by omega), HB.out⟩)
        go_wp2_with fail
        go_ret
        exact HQ.out _ HROW.out

end Go.Proofs.Ytagibgphegoagaa
end

section
/- slices.Values, Collect and Sorted at lists of numbers, by contracts. -/
namespace Go.Proofs.Ytagibgphegoagaa
open Go.RowKit Go.Shelf
set_option linter.unusedVariables false

attribute [local go_sem] Oper.semAt_some
attribute [local go_sem ↓ high] builtin_append_held

set_option maxRecDepth 100000 in
set_option maxHeartbeats 2000000 in
theorem vals_steps (F : Fence) (n : Nat) (hf : F.fn 149) (hro : F.round = none) (hn : 1 ≤ n) (w : World) (B1 bp o c : Nat) (a : Option Addr) (hB1 : B1 < w.heap.size) (hbp : bp < w.heap.size) (l : List Int) (hl : l.length ≤ 1048576)
    (hc1 : w.cell? ⟨B1, 0, none⟩ = some (.slice a l.length c)) (hcp : ∀ (j : Nat) x, l[j]? = some x → a = some ⟨bp, o, none⟩ ∧ w.cell? ⟨bp, o + j, none⟩ = some (.int .i64 x)) :
    StepsSeq F n Try.prog 149 #[.pointer (some ⟨B1, 0, none⟩)] (fun x : Int => #[.int .i64 x]) (KeepTwo B1 bp) (fun pre x => pre = l.take pre.length ∧ l[pre.length]? = some x) (fun xs => xs = l) w := by
  intro ln J W hW hJ hY h0
  have hd1 : W.cell? ⟨B1, 0, none⟩ = some (.slice a l.length c) := (hW.cell (p := ⟨B1, 0, none⟩) hB1).trans hc1
  have HCP : Hid (∀ (j : Nat) x, l[j]? = some x → a = some ⟨bp, o, none⟩ ∧ W.cell? ⟨bp, o + j, none⟩ = some (.int .i64 x)) := Lib.hid (fun j x hj => ⟨(hcp j x hj).1, (hW.cell (p := ⟨bp, o + j, none⟩) hbp).trans (hcp j x hj).2⟩)
  have HY := Lib.hid hY
  clear hcp hY hc1 hW hJ
  refine callsIn_of_wp Try.func149 rfl hf ?_ hro
  simp only [Try.ntmps149, List.size_toArray, List.length_cons, List.length_nil, Nat.reduceAdd, Nat.reduceSub, Array.replicate_succ, Array.replicate_zero, List.push_toArray, List.append_toArray, List.nil_append, List.cons_append]
  gi_wp2
  gi_loopw [4, 7] (fun _ p wr => ∃ k : Nat, p = .int .i64 k ∧ k ≤ l.length ∧ KeepTwo B1 bp W wr ∧ J (l.take k) wr) (fun _ p _ => l.length - (intOf p).toNat)
  case atStart => exact ⟨0, rfl, Nat.zero_le _, ⟨rfl, rfl⟩, h0⟩
  case round =>
    obtain ⟨k, rfl, hk, hkp, hJs⟩ := hrel
    by_cases hlt : k < l.length
    · obtain ⟨x, hx⟩ : ∃ x, l[k]? = some x := ⟨_, List.getElem?_eq_getElem hlt⟩
      obtain ⟨rfl, hcx0⟩ := HCP.out k x hx
      have hcx : wr.cell? ⟨bp, o + k, none⟩ = some (.int .i64 x) := (World.cell?_of_block (w := W) (a := ⟨bp, o + k, none⟩) hkp.2).trans hcx0
      have hlen : (l.take k).length = k := by rw [List.length_take]; omega
      obtain ⟨fn, tmps, assign, body, hy, hR⟩ := HY.out (l.take k) x wr ⟨by rw [hlen], by rw [hlen]; exact hx⟩ hJs
      have HT : Hid (l.take (k + 1) = l.take k ++ [x]) := Lib.hid (by rw [List.take_add_one, hx]; rfl)
      have HKP := Lib.hid hkp
      have hkz : (k : Int) < l.length := by omega
      clear hx hcx0 hlen hkp
      gi_wp2
      refine hR.mono ?_
      rintro e W3 ⟨rfl, hJ3, hk3⟩
      have HN : Hid (KeepTwo B1 bp W W3 ∧ J (l.take (k + 1)) W3) := Lib.hid ⟨HKP.out.trans hk3, by rw [HT.out]; exact hJ3⟩
      clear hJ3 hk3 hy hR
      gi_wp2
      go_roundw
      case rel => exact ⟨k + 1, by go_num, by omega, HN.out.1, HN.out.2⟩
      case measure => simp [intOf]; omega
    · obtain rfl : k = l.length := by omega
      have HN : Hid (∃ xs, xs = l ∧ J xs wr) := Lib.hid ⟨l, rfl, by rw [List.take_length] at hJs; exact hJs⟩
      clear hJs hkp
      gi_wp2
      go_end0
      exact ⟨⟨_, rfl⟩, HN.out⟩

theorem vals_any (a : Option Addr) (len c : Nat) (w : World) :
    Calls Try.prog 105 #[.slice a len c] w fun e w' => e = .returned (.func (.func 149) #[] #[.pointer (some ⟨w.heap.size, 0, none⟩)]) ∧ w' = w.alloc (.cells #[.slice a len c] 34) := by
  go_enter Try.func105, Try.ntmps105
  go_wp2
  go_ret
  exact ⟨rfl, rfl⟩

/-- 'append(l, n)' of one number, told of every block. -/
theorem appendNil (base : Nat) (v : Value) (L : List Int) (x : Int) (w : World) (h : w.ownsRow base 3 1 v L.length (ints L)) (hb : base ≤ w.heap.size) (hn : L.length ≤ 1048576) :
    ∃ v' w', (heldAppend #[34, 34] 34 #[v, .slice (some ⟨w.heap.size, 0, none⟩) 1 1]).run Try.prog (w.alloc (.cells #[.int .i64 x] 3)) = .ok v' w' ∧
      w'.ownsRow base 3 1 v' (L ++ [x]).length (ints (L ++ [x])) ∧ Below base w w' ∧ (∀ k, k < w.heap.size → v.ownBlock ≠ some k → w'.heap[k]? = w.heap[k]?) ∧ ∃ a' c', v' = .slice a' (L ++ [x]).length c' := by
  obtain ⟨i0, hi, hz0, hz1, hz2⟩ := info_parts infoIntA
  obtain ⟨v', w', hrun, hown, hgrow, _⟩ := run_append_own (P := Try.prog) (w := w.alloc (.cells #[.int .i64 x] 3)) base 34 34 3 i0 (.int .i64 0) 1 8 Try.underlying34 hi hz0 hz1 hz2 rfl (by decide)
    _ L.length (ints L) (World.ownsRow.alloc h _) ⟨w.heap.size, 0, none⟩ 1 1 [.int .i64 x] rfl (cell_one_new w _ _) (by simp [Value.oneCell']) (by unfold maxLen; omega) (by omega) (by simp; omega)
  have hown2 : w'.ownsRow base 3 1 v' (L ++ [x]).length (ints (L ++ [x])) := by
    rw [ints_append, List.length_append]
    exact hown
  refine ⟨v', w', hrun, hown2, ((Below.refl base w).alloc hb _).grown hgrow (by simp; omega) (fun j e => (h.lt j e).1), fun k hk hne => (hgrow.block k (by simp; omega) (fun e => hne e.symm)).trans (Below.heap_alloc w _ k hk), ?_⟩
  rcases hown2.2 with ⟨rfl, hz⟩ | ⟨j, cap, cur, rfl, _⟩
  · simp at hz
  · exact ⟨_, _, rfl⟩

/-- What has been gathered. -/
def SeqV (bs B1 bp : Nat) (w : World) (pre : List Int) (W : World) : Prop :=
  (∃ v, Boxed W bs 34 v ∧ W.ownsRow (bs + 1) 3 1 v pre.length (ints pre) ∧ ∃ a c, v = .slice a pre.length c) ∧ Below bs w W

theorem own_cells {base n : Nat} {w : World} {v : Value} {cs : List Value} (h : w.ownsRow base 3 1 v n cs) {k : Nat} (hk : v.ownBlock = some k) : base ≤ k ∧ ∀ o, w.heap[k]? = some o → o.isCells = true := by
  rcases h.2 with ⟨rfl, _⟩ | ⟨j, cap, cur, rfl, hj, hg, rest⟩
  · simp [Value.ownBlock] at hk
  · obtain rfl : j = k := by simpa [Value.ownBlock] using hk
    exact ⟨hj, fun o ho => by rw [hg] at ho; simp at ho; subst ho; rfl⟩
theorem own_same {base n : Nat} {w w' : World} {v : Value} {cs : List Value} (h : w.ownsRow base 3 1 v n cs) (hb : ∀ k, v.ownBlock = some k → w'.heap[k]? = w.heap[k]?) : w'.ownsRow base 3 1 v n cs := by
  refine ⟨h.1, ?_⟩
  rcases h.2 with hn | ⟨j, cap, cur, rfl, hj, hg, rest⟩
  · exact .inl hn
  · exact .inr ⟨j, cap, cur, rfl, hj, (hb j rfl).trans hg, rest⟩

theorem SeqV.own {bs B1 bp B : Nat} {w : World} (hw : bs ≤ w.heap.size) (hB : bs ≤ B) : OwnFrom B (SeqV bs B1 bp w) := by
  rintro pre W W' row ⟨⟨v, hb, ho, hs⟩, hbe⟩ hg hr
  refine ⟨⟨v, hb.kept hg (fun e => ?_), own_same ho (fun k hk => hg.block k (ho.lt k hk).2 (fun e => ?_)), hs⟩, hbe.grown hg (Nat.le_trans hw hbe.size) (fun k e => Nat.le_trans hB (hr k e).1)⟩
  · obtain ⟨_, o, hoo, hc⟩ := hr bs e.symm
    rw [show W.heap[bs]? = _ from hb] at hoo; cases hoo; cases hc
  · obtain ⟨_, o, hoo, hc⟩ := hr k e.symm
    rw [(own_cells ho hk).2 o hoo] at hc; cases hc

theorem seqv_leave {F : Fence} {n : Nat} {l : List Int} {base : Nat} {w w1 : World} {tmps : Array Value} {D : Nat} {v : Value} (hK : w1.heap[D]? = some (.deferred (some []))) (hD : base ≤ D) (hb : Below base w w1)
    (hH : w1.ownsRow base 3 1 v l.length (ints l)) (h4 : tmps.getD 4 undef = v) :
    LeavesInM F n Try.prog Try.f169 tmps (fun e w' => ∃ v', e = .returned v' ∧ w'.ownsRow base 3 1 v' l.length (ints l) ∧ Below base w w') [{ target := .collected D, args := #[] }] .returning w1 := by
  refine ⟨by simp, .inl ⟨D, _, rfl, run_takeDeferred hK, ?_⟩⟩
  refine ⟨_, results_tmp rfl _ _ _, v, by rw [h4], own_same hH (fun k hk => World.putObj_heap_other (fun e => ?_)), hb.trans ⟨rfl, rfl, rfl, by simp [World.putObj], fun k hk => World.putObj_heap_other (by omega)⟩⟩
  subst e
  have := (own_cells hH hk).2 _ hK
  cases this

set_option maxRecDepth 100000 in
set_option maxHeartbeats 4000000 in
theorem appendSeqI_any (w : World) (B1 bp o c : Nat) (a : Option Addr) (l : List Int) (hl : l.length ≤ 1048576) (hB1 : B1 < w.heap.size) (hbp : bp < w.heap.size)
    (hc1 : w.cell? ⟨B1, 0, none⟩ = some (.slice a l.length c)) (hcp : ∀ (j : Nat) x, l[j]? = some x → a = some ⟨bp, o, none⟩ ∧ w.cell? ⟨bp, o + j, none⟩ = some (.int .i64 x)) :
    Calls Try.prog 169 #[.slice none 0 0, .func (.func 149) #[] #[.pointer (some ⟨B1, 0, none⟩)]] w fun e w' => ∃ v', e = .returned v' ∧ w'.ownsRow w.heap.size 3 1 v' l.length (ints l) ∧ Below w.heap.size w w' := by
  refine (callsIn_wide (n := 5)).1 ?_
  refine callsIn_of_wp_marks Try.func169 rfl trivial ?_ rfl
  simp only [Try.ntmps169, List.size_toArray, List.length_cons, List.length_nil, Nat.reduceAdd, Nat.reduceSub, Array.replicate_succ, Array.replicate_zero, List.push_toArray, List.append_toArray, List.nil_append, List.cons_append]
  gi_wp2
  have bN := Boxed.new w 34 (.slice none 0 0)
  have hal : Below w.heap.size w (w.alloc (.cells #[.slice none 0 0] 34)) := (Below.refl _ _).alloc (Nat.le_refl _) _
  have hszL : (w.alloc (.cells #[.slice none 0 0] 34)).heap.size = w.heap.size + 1 := by simp
  have hO : (w.alloc (.cells #[.slice none 0 0] 34)).ownsRow (w.heap.size + 1) 3 1 (.slice none 0 0) ([] : List Int).length (ints []) := ⟨by simp [ints], .inl ⟨rfl, rfl⟩⟩
  generalize (w.alloc (.cells #[.slice none 0 0] 34)) = wL at *
  have hcL : wL.cell? ⟨B1, 0, none⟩ = some (.slice a l.length c) := (hal.cell (p := ⟨B1, 0, none⟩) hB1).trans hc1
  refine range_steps rfl (by decide) (gf := 149) (lb := #[.pointer (some ⟨B1, 0, none⟩)]) rfl trivial (enters_of Try.func149 (by kernel_rfl) rfl)
    (vals_steps Fence.wide 4 trivial rfl (by decide) wL B1 bp o c a (by omega) (by omega) l hl hcL (fun j x hx => ⟨(hcp j x hx).1, (hal.cell (p := ⟨bp, o + j, none⟩) hbp).trans (hcp j x hx).2⟩)) KeepTwo.trans (fun W i o hi => KeepTwo.put (by omega) (by omega) W o) (fun _ => rfl)
    (SeqV w.heap.size B1 bp w) (SeqV.own (Nat.le_refl _) (by omega))
    ⟨⟨_, bN, hO, _, _, rfl⟩, hal⟩
    (fun x : Int => { tmps := #[.slice none 0 0, .func (.func 149) #[] #[.pointer (some ⟨B1, 0, none⟩)], .pointer (some ⟨w.heap.size, 0, none⟩), undef, .slice none 0 0, .int .i64 x, .func (.func 149) #[] #[.pointer (some ⟨B1, 0, none⟩)], .int .i64 x, undef, undef, undef, undef, undef], defers := [] }) ?assign ?body ?done
  case assign =>
    intro i x W K hK
    gi_wp2
    exact hK
  case body =>
    rintro i pre x W ⟨hpe, hpx⟩ ⟨⟨v, hb, ho, av, cv, rfl⟩, hbe⟩
    have hpl : pre.length ≤ 1048576 := by have := (List.getElem?_eq_some_iff.1 hpx).1; omega
    have hlt := hb.lt
    obtain ⟨v2, w2, hrun, hR2, hb2, hk2, a2, c2, rfl⟩ := appendNil (w.heap.size + 1) _ pre x W ho (by omega) hpl
    have hbx2 : Boxed w2 w.heap.size 34 (.slice av pre.length cv) := (hb2.block w.heap.size (by omega)).trans hb
    have hset : ∀ k, k ≠ w.heap.size → (w2.setCell ⟨w.heap.size, 0, none⟩ (.slice a2 (pre ++ [x]).length c2)).heap[k]? = w2.heap[k]? := fun k hk => Below.heap_setCell _ _ _ _ hk
    have hkk : ∀ k, k < w.heap.size → (w2.setCell ⟨w.heap.size, 0, none⟩ (.slice a2 (pre ++ [x]).length c2)).heap[k]? = W.heap[k]? := fun k hk => (hset k (by omega)).trans (hb2.block k (by omega))
    have HPOST : ∀ a', Hid (stepPost wL.heap.size (KeepTwo B1 bp) (SeqV w.heap.size B1 bp w) (pre ++ [x]) W .normal a' (w2.setCell ⟨w.heap.size, 0, none⟩ (.slice a2 (pre ++ [x]).length c2))) := fun a' => Lib.hid (by
      refine ⟨⟨Nat.le_trans hb2.size (by simp), fun k o' _ hk ho' => ?_⟩, ⟨hkk _ hB1, hkk _ hbp⟩, ⟨_, hbx2.set _, own_same hR2 (fun k hk => hset k (fun e => ?_)), _, _, rfl⟩, (hbe.trans (hb2.mono (Nat.le_succ _))).setCell (p := ⟨w.heap.size, 0, none⟩) (Nat.le_refl _) _⟩
      · have h1 : k ≠ w.heap.size := fun e => by subst e; rw [show W.heap[w.heap.size]? = _ from hb] at hk; cases hk; cases ho'
        exact (hset k h1).trans ((hk2 k (Array.getElem?_eq_some_iff.1 hk).1 (fun e => by have := (own_cells ho e).2 o' hk; rw [ho'] at this; cases this)).trans hk)
      · have := (own_cells hR2 hk).1; omega)
    have hcS := hb.cell
    have hca := (hb.alloc (.cells #[.int .i64 x] 3)).cell
    have hcS2 := hbx2.cell
    have hfS2 := hbx2.frozen
    clear hszL hb ho hbe hpl hpe hpx hR2 hb2 hk2 hbx2 hset hkk hcp hc1 hcL hal hO bN
    gi_wp2
    rw [show pre.length + 1 = (pre ++ [x]).length by simp]
    exact (HPOST _).out
  case done =>
    rintro D ys W hD rfl ⟨⟨v, hb, ho, av, cv, rfl⟩, hbe⟩ hK
    have hcS := hb.cell
    have HO : Hid (W.ownsRow w.heap.size 3 1 (.slice av ys.length cv) ys.length (ints ys)) := Lib.hid ⟨ho.1, by
      rcases ho.2 with hn | ⟨j, cap, cur, e, hj, rest⟩
      · exact .inl hn
      · exact .inr ⟨j, cap, cur, e, by omega, rest⟩⟩
    have HK := Lib.hid hK
    have HBE := Lib.hid hbe
    clear hb ho hbe hK
    gi_wp2
    exact seqv_leave HK.out (by omega) HBE.out HO.out rfl

end Go.Proofs.Ytagibgphegoagaa
end

section
/- The program's DualPartition: the elements that a function chooses, by contract. -/
namespace Go.Proofs.Ytagibgphegoagaa
open Go.RowKit P El Qk
set_option linter.unusedVariables false
attribute [local go_sem ↓ high] builtin_append_held

theorem filter_step {l : List Int} {p : Int → Bool} {k : Nat} {x : Int} (h : l[k]? = some x) : (l.take (k + 1)).filter p = (l.take k).filter p ++ (if p x then [x] else []) := by
  rw [List.take_add_one, h, List.filter_append]
  cases hp : p x <;> simp [hp]
theorem filter_le {l : List Int} (p : Int → Bool) (k : Nat) : ((l.take k).filter p).length ≤ l.length :=
  Nat.le_trans (List.length_filter_le _ _) (by rw [List.length_take]; omega)

set_option maxRecDepth 100000 in
set_option maxHeartbeats 4000000 in
theorem chosen_any (p : Int → Bool) (ff : Nat) (lb : Array Value) (eg : ∀ args w, (callFunc ff args).run Try.prog w = .ok (.enter ff args) w) (b o c : Nat) (l : List Int) (w : World) (hv : FlatAt w (.slice (some ⟨b, o, none⟩) l.length c) l.length (ints l)) (hn : l.length ≤ 1048576)
    (hp : ∀ (W : World) x, Below w.heap.size w W → Calls Try.prog ff (#[.int .i64 x] ++ lb) W fun e w' => e = .returned (.bool (p x)) ∧ Below W.heap.size W w') :
    Calls Try.prog 154 #[.slice (some ⟨b, o, none⟩) l.length c, .func (.func ff) #[] lb] w fun e w' => ∃ v, e = .returned v ∧ OwnN w.heap.size w' v (l.filter p) ∧ Below w.heap.size w w' := by
  obtain ⟨a', c', he, _, h⟩ := hv
  simp at he
  obtain ⟨rfl, rfl⟩ := he
  have H := Lib.hid h
  have HPR := Lib.hid hp
  have HLE := Lib.hid (filter_le (l := l) p)
  clear h hp
  go_enter Try.func154, Try.ntmps154
  go_wp2_with fail
  go_loopw [5, 7, 10] (fun sv _ iv wr => ∃ k : Nat, k ≤ l.length ∧ iv = .int .i64 (k : Int) ∧ OwnN w.heap.size wr sv ((l.take k).filter p) ∧ Below w.heap.size w wr) (fun _ _ iv _ => l.length - (intOf iv).toNat)
  case atStart => exact ⟨0, Nat.zero_le _, rfl, OwnN.nil _ _, Below.refl _ _⟩
  case round =>
    obtain ⟨k, hk, rfl, ho, hb⟩ := hrel
    have HO := Lib.hid ho
    have HB := Lib.hid hb
    clear ho hb
    by_cases hlt : k < l.length
    · have hltz : (k : Int) < (l.length : Int) := by omega
      have hld : decide ((k : Int) < (l.length : Int)) = true := decide_eq_true hltz
      obtain ⟨x, hx⟩ : ∃ x, l[k]? = some x := ⟨_, List.getElem?_eq_getElem hlt⟩
      obtain ⟨b', o', e, hbb, hcell⟩ := H.out _ _ (ints_at hx)
      simp at e
      obtain ⟨rfl, rfl⟩ := e
      have hw1 : wr.cell? ⟨b, o + k, none⟩ = some (.int .i64 x) := (HB.out.cell (p := ⟨b, o + k, none⟩) hbb).trans hcell
      have HFS := Lib.hid (filter_step (p := p) hx)
      have HCALL := Lib.hid (HPR.out wr x HB.out)
      have hll := HLE.out k
      clear hcell hx
      cases hq : p x with
      | true =>
        rw [hq] at HFS HCALL
        rw [if_pos rfl] at HFS
        clear hq
        go_wp2_with (go_at_fn ff; refine (HCALL.out).mono ?_; rintro e w2 ⟨rfl, hb2⟩; obtain ⟨g', c', w3, hrun, ho3, hb3, _, _⟩ := appendN w.heap.size _ _ x w2 (HO.out.keep (fun g hg => hb2.block g (HO.out.lt g hg).2)) (Nat.le_trans HB.out.size hb2.size) (Nat.le_trans hll hn); have HO3 := Lib.hid ho3; have HB3 := Lib.hid (((HB.out.trans (hb2.mono HB.out.size))).trans hb3); clear ho3 hb3 hb2)
        go_roundw
        case rel => exact ⟨k + 1, by omega, by go_num, by rw [HFS.out]; simpa using HO3.out, HB3.out⟩
        case measure => simp [intOf]; omega
      | false =>
        rw [hq] at HFS HCALL
        rw [if_neg (by decide), List.append_nil] at HFS
        clear hq
        go_wp2_with (go_at_fn ff; refine (HCALL.out).mono ?_; rintro e w2 ⟨rfl, hb2⟩; have HB2 := Lib.hid hb2; clear hb2)
        go_roundw
        case rel => exact ⟨k + 1, by omega, by go_num, by rw [HFS.out]; exact HO.out.keep (fun g hg => HB2.out.block g (HO.out.lt g hg).2), HB.out.trans (HB2.out.mono HB.out.size)⟩
        case measure => simp [intOf]; omega
    · have hltz : ¬ (k : Int) < (l.length : Int) := by omega
      have hld : decide ((k : Int) < (l.length : Int)) = false := decide_eq_false hltz
      obtain rfl : k = l.length := by omega
      rw [List.take_length] at HO
      go_wp2_with fail
      go_ret
      exact ⟨_, rfl, HO.out, HB.out⟩

set_option maxRecDepth 100000 in
theorem less_any (a : Nat) (x p : Int) (W : World) (h : W.cell? ⟨a, 0, none⟩ = some (.int .i64 p)) :
    Calls Try.prog 155 #[.int .i64 x, .pointer (some ⟨a, 0, none⟩)] W fun e w' => e = .returned (.bool (decide (x < p))) ∧ Below W.heap.size W w' := by
  go_enter Try.func155, Try.ntmps155
  go_wp2_with fail
  go_ret
  exact ⟨rfl, Below.refl _ _⟩
set_option maxRecDepth 100000 in
theorem more_any (a : Nat) (x q : Int) (W : World) (h : W.cell? ⟨a, 0, none⟩ = some (.int .i64 q)) :
    Calls Try.prog 157 #[.int .i64 x, .pointer (some ⟨a, 0, none⟩)] W fun e w' => e = .returned (.bool (decide (q < x))) ∧ Below W.heap.size W w' := by
  go_enter Try.func157, Try.ntmps157
  go_wp2_with fail
  go_ret
  exact ⟨rfl, Below.refl _ _⟩
set_option maxRecDepth 100000 in
theorem amid_any (a b : Nat) (x p q : Int) (W : World) (h : W.cell? ⟨a, 0, none⟩ = some (.int .i64 p)) (h2 : W.cell? ⟨b, 0, none⟩ = some (.int .i64 q)) :
    Calls Try.prog 156 #[.int .i64 x, .pointer (some ⟨a, 0, none⟩), .pointer (some ⟨b, 0, none⟩)] W fun e w' => e = .returned (.bool (decide (p ≤ x ∧ x ≤ q))) ∧ Below W.heap.size W w' := by
  by_cases h1 : p ≤ x
  · have hd : decide (p ≤ x) = true := decide_eq_true h1
    have HE : Hid (decide (p ≤ x ∧ x ≤ q) = decide (x ≤ q)) := Lib.hid (by simp [h1])
    rw [HE.out]
    go_enter Try.func156, Try.ntmps156
    go_wp2_with fail
    go_ret
    exact ⟨rfl, Below.refl _ _⟩
  · have hd : decide (p ≤ x) = false := decide_eq_false h1
    have HE : Hid (decide (p ≤ x ∧ x ≤ q) = false) := Lib.hid (by simp [h1])
    rw [HE.out]
    go_enter Try.func156, Try.ntmps156
    go_wp2_with fail
    go_ret
    exact ⟨rfl, Below.refl _ _⟩

end Go.Proofs.Ytagibgphegoagaa
end

section
/- The stable arrangement of indices, of any number of them. -/
namespace Go.Proofs.Ytagibgphegoagaa
open Go.RowKit Go.Sort Go.Lib StC P

theorem ins0_any (a : Option Addr) (c : Nat) (fv : Value) (w : World) :
    Calls Try.prog 195 #[.slice a 0 c, .int .i64 0, .int .i64 0, fv] w fun e w' => e = .returned (.tuple #[]) ∧ w' = w := by
  go_enter Try.func195, Try.ntmps195
  go_wp2_with fail
  go_loopw [8] (fun i wr => i = .int .i64 1 ∧ wr = w) (fun _ _ => 0)
  case atStart => exact ⟨rfl, rfl⟩
  case round =>
    obtain ⟨rfl, rfl⟩ := hrel
    go_wp2_with fail
    go_end0
    first | exact ⟨rfl, rfl⟩ | exact ⟨rfl, by trivial⟩

theorem sort0_any (a : Option Addr) (c : Nat) (fv : Value) (w : World) :
    Calls Try.prog 166 #[.slice a 0 c, fv] w fun e w' => e = .returned (.tuple #[]) ∧ w' = w := by
  have HI := Lib.hid (fun W => ins0_any a c fv W)
  have HS : Hid (∀ W, Calls Try.prog 185 #[.slice a 0 c, .int .i64 0, fv] W fun e w' => e = .returned (.tuple #[]) ∧ w' = W) := Lib.hid (fun W => by
    go_enter Try.func185, Try.ntmps185
    go_wp2_with fail
    go_loopw [7, 8] (fun i j wr => i = .int .i64 0 ∧ j = .int .i64 20 ∧ wr = W) (fun _ _ _ => 0)
    case atStart => exact ⟨rfl, rfl, rfl⟩
    case round =>
      obtain ⟨rfl, rfl, rfl⟩ := hrel
      go_wp2_with fail
      refine (HI.out _).mono ?_
      rintro e w1 ⟨rfl, rfl⟩
      go_wp2_with fail
      go_loopw [6, 7, 8] (fun i j k wr => i = .int .i64 20 ∧ wr = w1) (fun _ _ _ _ => 0)
      case atStart => exact ⟨rfl, rfl⟩
      case round =>
        obtain ⟨rfl, rfl⟩ := hrel
        go_wp2_with fail
        go_end0
        first | exact ⟨rfl, rfl⟩ | exact ⟨rfl, by trivial⟩)
  go_enter Try.func166, Try.ntmps166
  go_wp2_with fail
  refine (HS.out _).mono ?_
  rintro e w1 ⟨rfl, rfl⟩
  go_wp2_with fail
  go_end0
  first | exact ⟨rfl, rfl⟩ | exact ⟨rfl, by trivial⟩

theorem arrange0_any (b c : Nat) (fv : Value) (w : World) (_hb : b < w.heap.size) :
    Calls Try.prog 134 #[.slice (some ⟨b, 0, none⟩) 0 c, fv] w (RowI [] w) := by
  have HCL := Lib.hid (cloneInts_any b 0 c [] w ⟨_, c, rfl, Nat.zero_le _, fun j u hu => by simp [ints] at hu⟩ (by simp))
  go_enter Try.func134, Try.ntmps134
  go_wp2_with fail
  refine (HCL.out).mono ?_
  rintro e w1 ⟨g, cap, rfl, hcp, hg, hrow, hb⟩
  have HRES : Hid (RowI [] w (.returned (.slice (some ⟨g, 0, none⟩) 0 cap)) w1) := Lib.hid ⟨g, cap, rfl, hcp, hg, hrow, hb⟩
  clear hcp hg hrow hb HCL
  go_wp2_with fail
  refine (sort0_any _ _ _ _).mono ?_
  rintro e w2 ⟨rfl, rfl⟩
  go_wp2_with fail
  go_ret
  exact HRES.out

theorem arrangeN_any {NN : Nat} (N : Nat) (hN : N = NN + 1) (cf : Fin (NN + 1) → Fin (NN + 1) → Int) (hO : SWO (ltOf cf)) (gf : Nat) (cb : Array Value) (eg : ∀ args w, (callFunc gf args).run Try.prog w = .ok (.enter gf args) w) (b c : Nat) (w : World) (hr : CellRow w b (ints (iota N))) (hn : N ≤ 1048576)
    (hC : ∀ (W : World), Below w.heap.size w W → ∀ x y : Fin (NN + 1), Calls Try.prog gf (#[.int .i64 (x.val : Int), .int .i64 (y.val : Int)] ++ cb) W fun e w' => e = .returned (.int .i64 (cf x y)) ∧ ∃ q os', w' = grow (W.drewN q) os') (hcap : N ≤ c) :
    Calls Try.prog 134 #[.slice (some ⟨b, 0, none⟩) N c, .func (.func gf) #[] cb] w fun e w' =>
      ∃ (g cg : Nat) (M : List (Fin (NN + 1))), e = .returned (.slice (some ⟨g, 0, none⟩) N cg) ∧ N ≤ cg ∧ w.heap.size ≤ g ∧ CellRow w' g (ints (valsF M)) ∧ St (ltOf cf) (fins NN) M ∧ Below w.heap.size w w' := by
  subst hN
  exact arrange_any cf hO gf cb eg b c w hr hn hC hcap

end Go.Proofs.Ytagibgphegoagaa
end

section
/- Three lists that grow by append, in different blocks. -/
namespace Go.Proofs.Ytagibgphegoagaa
open Go.RowKit P El Qk
set_option linter.unusedVariables false
attribute [local go_sem ↓ high] builtin_append_held

/-- Two lists in different blocks. -/
def Apart (u v : Value) : Prop := ∀ g, u.ownBlock = some g → v.ownBlock = some g → False
theorem Apart.symm {u v : Value} (h : Apart u v) : Apart v u := fun g a b => h g b a
theorem Apart.of {base g n c : Nat} {w : World} {u v : Value} {M : List Int} (h : Apart u v) (hv : Held base w v M) (hg : u.ownBlock = some g ∨ w.heap.size ≤ g) : Apart (.slice (some ⟨g, 0, none⟩) n c) v := fun k a b => by
  obtain rfl : g = k := by simpa [Value.ownBlock] using a
  rcases hg with hg | hg
  · exact h g hg b
  · have := (hv.1.lt g b).2; omega
theorem Held.keepN {base : Nat} {w w' : World} {u v : Value} {M : List Int} (hv : Held base w v M) (h : Apart u v) (hf : ∀ k, k < w.heap.size → u.ownBlock ≠ some k → w'.heap[k]? = w.heap[k]?) : Held base w' v M :=
  hv.own (fun g c e hg => hf g hg (fun hu => h g hu (by rw [e]; rfl)))
/-- The three lists. -/
structure Du3 (base : Nat) (u v t : Value) (A B C : List Int) (w0 w : World) : Prop where
  a : Held base w u A
  b : Held base w v B
  c : Held base w t C
  ab : Apart u v
  ac : Apart u t
  bc : Apart v t
  bl : Below base w0 w
/-- 'append(l, n)' to one of them. -/
theorem appD (base : Nat) (v : Value) (L : List Int) (x : Int) (w : World) (h : Held base w v L) (hb : base ≤ w.heap.size) (hn : L.length ≤ 1048576) :
    ∃ g' c' w', (heldAppend #[34, 34] 34 #[v, .slice (some ⟨w.heap.size, 0, none⟩) 1 1]).run Try.prog (w.alloc (.cells #[.int .i64 x] 3)) = .ok (.slice (some ⟨g', 0, none⟩) (L.length + 1) c') w' ∧
      Held base w' (.slice (some ⟨g', 0, none⟩) (L.length + 1) c') (L ++ [x]) ∧ Below base w w' ∧ (∀ k, k < w.heap.size → v.ownBlock ≠ some k → w'.heap[k]? = w.heap[k]?) ∧ (v.ownBlock = some g' ∨ w.heap.size ≤ g') := by
  obtain ⟨g', c', w', h1, h2, h3, h4, h5⟩ := appendN base v L x w h.1 hb hn
  have e : (L ++ [x]).length = L.length + 1 := by simp
  rw [e] at h2
  exact ⟨g', c', w', h1, ⟨h2, g', c', by rw [e]⟩, h3, h4, h5⟩
/-- 'append(l, list...)', and what else stays. -/
theorem appM (base : Nat) (v : Value) (L : List Int) (b o c : Nat) (l : List Int) (w : World) (h : Held base w v L) (hb : base ≤ w.heap.size) (hn : L.length + l.length ≤ 2097152)
    (hl : ∀ (j : Nat) u, (ints l)[j]? = some u → w.cell? ⟨b, o + j, none⟩ = some u) :
    ∃ v' w', (heldAppend #[34, 34] 34 #[v, .slice (some ⟨b, o, none⟩) l.length c]).run Try.prog w = .ok v' w' ∧
      Held base w' v' (L ++ l) ∧ Below base w w' ∧ (∀ k, k < w.heap.size → v.ownBlock ≠ some k → w'.heap[k]? = w.heap[k]?) ∧ w.heap.size ≤ w'.heap.size := by
  obtain ⟨i0, hi, hz0, hz1, hz2⟩ := info_parts infoIntH
  obtain ⟨h, g, cv, rfl⟩ := h
  obtain ⟨v', w', hrun, hown, hgrow, hnil⟩ := run_append_own (P := Try.prog) (w := w) base 34 34 3 i0 (.int .i64 0) 1 8 Try.underlying34 hi hz0 hz1 hz2 rfl (by decide)
    _ L.length (ints L) h ⟨b, o, none⟩ l.length c (ints l) (by rw [ints_length, Nat.mul_one]) (fun j u hu => by
      have e : (⟨b, o, none⟩ : Addr).add j = ⟨b, o + j, none⟩ := by
        unfold Addr.add; split
        · rename_i h; subst h; rfl
        · rfl
      rw [e]; exact hl j u hu) (ints_one l) (by unfold maxLen; omega) (by omega) (by omega)
  rw [← ints_append L l, ← show (L ++ l).length = L.length + l.length by simp] at hown
  have hbl : Below base w w' := (Below.refl base w).grown hgrow (by omega) (fun j e => (h.lt j e).1)
  refine ⟨v', w', hrun, ⟨hown, ?_⟩, hbl, fun k hk hne => hgrow.block k hk (Ne.symm hne), hbl.size⟩
  rcases hown.2 with ⟨e, hz⟩ | ⟨g', cap, cur, e, _⟩
  · have := (hnil.1 e).1
    simp at this
  · exact ⟨g', cap, e⟩
theorem Du3.low {base : Nat} {u v t : Value} {A B C : List Int} {w0 w : World} (h : Du3 base u v t A B C w0 w) (hb : base ≤ w.heap.size) (hn : A.length ≤ 1048576) (x : Int) :
    ∃ g' c' w', (heldAppend #[34, 34] 34 #[u, .slice (some ⟨w.heap.size, 0, none⟩) 1 1]).run Try.prog (w.alloc (.cells #[.int .i64 x] 3)) = .ok (.slice (some ⟨g', 0, none⟩) (A.length + 1) c') w' ∧ Du3 base (.slice (some ⟨g', 0, none⟩) (A.length + 1) c') v t (A ++ [x]) B C w0 w' := by
  obtain ⟨g', c', w', h1, h2, h3, h4, h5⟩ := appD base u A x w h.a hb hn
  exact ⟨g', c', w', h1, h2, h.b.keepN h.ab h4, h.c.keepN h.ac h4, h.ab.of h.b h5, h.ac.of h.c h5, h.bc, h.bl.trans h3⟩
theorem Du3.mid {base : Nat} {u v t : Value} {A B C : List Int} {w0 w : World} (h : Du3 base u v t A B C w0 w) (hb : base ≤ w.heap.size) (hn : B.length ≤ 1048576) (x : Int) :
    ∃ g' c' w', (heldAppend #[34, 34] 34 #[v, .slice (some ⟨w.heap.size, 0, none⟩) 1 1]).run Try.prog (w.alloc (.cells #[.int .i64 x] 3)) = .ok (.slice (some ⟨g', 0, none⟩) (B.length + 1) c') w' ∧ Du3 base u (.slice (some ⟨g', 0, none⟩) (B.length + 1) c') t A (B ++ [x]) C w0 w' := by
  obtain ⟨g', c', w', h1, h2, h3, h4, h5⟩ := appD base v B x w h.b hb hn
  exact ⟨g', c', w', h1, h.a.keepN h.ab.symm h4, h2, h.c.keepN h.bc h4, (h.ab.symm.of h.a h5).symm, h.ac, h.bc.of h.c h5, h.bl.trans h3⟩
theorem Du3.high {base : Nat} {u v t : Value} {A B C : List Int} {w0 w : World} (h : Du3 base u v t A B C w0 w) (hb : base ≤ w.heap.size) (hn : C.length ≤ 1048576) (x : Int) :
    ∃ g' c' w', (heldAppend #[34, 34] 34 #[t, .slice (some ⟨w.heap.size, 0, none⟩) 1 1]).run Try.prog (w.alloc (.cells #[.int .i64 x] 3)) = .ok (.slice (some ⟨g', 0, none⟩) (C.length + 1) c') w' ∧ Du3 base u v (.slice (some ⟨g', 0, none⟩) (C.length + 1) c') A B (C ++ [x]) w0 w' := by
  obtain ⟨g', c', w', h1, h2, h3, h4, h5⟩ := appD base t C x w h.c hb hn
  exact ⟨g', c', w', h1, h.a.keepN h.ac.symm h4, h.b.keepN h.bc.symm h4, h2, h.ab, (h.ac.symm.of h.a h5).symm, (h.bc.symm.of h.b h5).symm, h.bl.trans h3⟩

theorem filt_yes {l : List Int} {p : Int → Bool} {k : Nat} {x : Int} (h : l[k]? = some x) (hp : p x = true) : (l.take (k + 1)).filter p = (l.take k).filter p ++ [x] := by
  rw [List.take_add_one, h, List.filter_append]; simp [hp]
theorem filt_no {l : List Int} {p : Int → Bool} {k : Nat} {x : Int} (h : l[k]? = some x) (hp : p x = false) : (l.take (k + 1)).filter p = (l.take k).filter p := by
  rw [List.take_add_one, h, List.filter_append]; simp [hp]
theorem filt_len {l : List Int} (p : Int → Bool) (k : Nat) : ((l.take k).filter p).length ≤ l.length :=
  Nat.le_trans (List.length_filter_le _ _) (by rw [List.length_take]; omega)

end Go.Proofs.Ytagibgphegoagaa
end

section
/- The draws of lists of numbers that may be invalid (anyInts), by their contract, never nil. -/
namespace Go.Proofs.Ytagibgphegoagaa
open Go.RowKit

attribute [local go_sem ↓ high] builtin_append_held

/-- A list of at most 66 numbers. -/
def AnyIntsCH (B g : Nat) (a : Option Addr) (len cap : Nat) (m : Nat) (w : World) (e : Ending) (w' : World) : Prop :=
  ∃ (v : Value) (l : List Int), l.length ≤ 66 ∧ (∀ x ∈ l, -1099511627776 ≤ x ∧ x ≤ 1099511627776) ∧ e = .returned v ∧ Held w.heap.size w' v l ∧ Cur B g a len cap (m + 700) w' ∧ But g w w'

theorem all_snocH {L : List Int} {x lo hi : Int} (h : ∀ y ∈ L, lo ≤ y ∧ y ≤ hi) (hx : lo ≤ x ∧ x ≤ hi) : ∀ y ∈ L ++ [x], lo ≤ y ∧ y ≤ hi := fun y hy => by
  rcases List.mem_append.1 hy with h' | h'
  · exact h y h'
  · rw [List.mem_singleton.1 h']; exact hx

set_option maxRecDepth 100000 in
set_option maxHeartbeats 4000000 in
theorem anyIntsH_any (B g : Nat) (a : Option Addr) (len cap : Nat) (m : Nat) (w : World) (h : Cur B g a len cap m w) (hm : m ≤ 900000) :
    Calls Try.prog 117 #[.pointer (some ⟨g, 0, none⟩)] w (AnyIntsCH B g a len cap m w) := by
  have H := Lib.hid h
  have hgl := h.lt
  clear h
  go_enter Try.func117, Try.ntmps117
  go_wp2_with fail
  refine (intsH_any B g a len cap m _ H.out (by omega)).mono ?_
  rintro e w1 ⟨v, l, hl, hall, rfl, hown, hc, hb⟩
  have HALL : Hid (∀ x ∈ l, -1099511627776 ≤ x ∧ x ≤ 1099511627776) := Lib.hid (fun x hx => by have := hall x hx; omega)
  have HO1 := Lib.hid hown
  have HC1 := Lib.hid hc
  have HB1 := Lib.hid hb
  clear hown hc hb H hall
  go_wp2_with fail
  refine (pick_any B g a len cap _ 24 _ HC1.out (by omega) (by omega)).mono ?_
  rintro e w2 ⟨r, hr0, hr1, rfl, hc, hb⟩
  have HC2 := Lib.hid hc
  have HB2 := Lib.hid (HB1.out.trans hb)
  have HO2 := Lib.hid (Held.butH HO1.out hb hgl)
  clear hc hb HC1 HB1 HO1
  by_cases h0 : r = 0
  · subst h0
    clear hr0 hr1
    go_wp2_with fail
    refine (among_lit B g a len cap _ [100001, -100001, 1099511627776] 3 _ _ rfl rfl _ HC2.out (by omega) (by decide) (by decide)).mono ?_
    rintro e w3 ⟨y, hy, rfl, hc, hb⟩
    obtain ⟨x, hz, rfl⟩ := List.mem_map.1 hy
    have hx : -1099511627776 ≤ x ∧ x ≤ 1099511627776 := by simp only [List.mem_cons, List.not_mem_nil, or_false] at hz; omega
    have HB3 := Lib.hid (HB2.out.trans hb)
    obtain ⟨v', w4, hrun, hown, hbel⟩ := appendOne w.heap.size _ l x w3 (Held.butH HO2.out hb hgl) HB3.out.size (by omega)
    have HQ : Hid (AnyIntsCH B g a len cap m w (.returned v') w4) := Lib.hid ⟨v', l ++ [x], by simp; omega, all_snocH HALL.out hx, rfl, hown, (hc.keep (hbel.mono (show g + 1 ≤ w.heap.size by omega))).more (by omega), HB3.out.then_below hbel⟩
    clear hc hb hown hbel HC2 HB2 HO2 HB3 hy hz hx HALL
    go_wp2_with fail
    go_ret
    exact HQ.out
  · by_cases h1 : r = 1
    · subst h1
      clear hr0 hr1
      go_wp2_with fail
      go_loopw [3] (fun v wr => ∃ L : List Int, L.length ≤ 65 ∧ (∀ p ∈ L, -1099511627776 ≤ p ∧ p ≤ 1099511627776) ∧ Held w.heap.size wr v L ∧ Cur B g a len cap (m + 202 + 4 * L.length) wr ∧ But g w wr) (fun v _ => 70 - lenV v)
      case atStart => exact ⟨l, by omega, HALL.out, HO2.out, HC2.out.more (by omega), HB2.out⟩
      case round =>
        obtain ⟨L, hL, hall, hrow, hcur, hb⟩ := hrel
        have HALL2 := Lib.hid hall
        have HROW := Lib.hid hrow
        have HCUR := Lib.hid hcur
        have HB := Lib.hid hb
        obtain ⟨_, g3, c3, rfl⟩ := id hrow
        clear hall hrow hcur hb HC2 HB2 HO2 HALL
        go_wp2_with fail
        refine (pick_any B g a len cap _ 2 _ HCUR.out (by omega) (by omega)).mono ?_
        rintro e w3 ⟨q, hq0, hq1, rfl, hc, hb⟩
        have hq2 : q ≤ 1 := by omega
        have HC3 := Lib.hid hc
        have HB3 := Lib.hid (HB.out.trans hb)
        have HO3 := Lib.hid (Held.butH HROW.out hb hgl)
        clear hc hb HROW HCUR HB hq1
        by_cases hlt : (L.length : Int) < 64 + q
        · go_wp2_with fail
          refine (pick_any B g a len cap _ 5 _ HC3.out (by omega) (by omega)).mono ?_
          rintro e w4 ⟨x, hx0, hx1, rfl, hc, hb⟩
          have hx : -1099511627776 ≤ x ∧ x ≤ 1099511627776 := by omega
          have HB4 := Lib.hid (HB3.out.trans hb)
          obtain ⟨v', w5, hrun, hown, hbel⟩ := appendOne w.heap.size _ L x w4 (Held.butH HO3.out hb hgl) HB4.out.size (by omega)
          have HO5 := Lib.hid hown
          have HC5 := Lib.hid (hc.keep (hbel.mono (show g + 1 ≤ w.heap.size by omega)))
          have HB5 := Lib.hid (HB4.out.then_below hbel)
          have HA5 := Lib.hid (all_snocH HALL2.out hx)
          have hlen : lenV v' = L.length + 1 := by
            obtain ⟨_, g4, c4, e⟩ := hown
            rw [e, lenV_slice]; simp
          have HLEN := Lib.hid hlen
          clear hc hb hown hbel hlen HC3 HB3 HO3 HB4 hx0 hx1 hx HALL2
          go_wp2_with fail
          go_roundw
          case rel => exact ⟨L ++ [x], by simp; omega, HA5.out, HO5.out, HC5.out.more (by simp; omega), HB5.out⟩
          case measure => rw [HLEN.out, lenV_slice]; omega
        · have HQ : Hid (AnyIntsCH B g a len cap m w (.returned (.slice (some ⟨g3, 0, none⟩) L.length c3)) w3) := Lib.hid ⟨_, L, by omega, HALL2.out, rfl, HO3.out, HC3.out.more (by omega), HB3.out⟩
          go_wp2_with fail
          go_ret
          exact HQ.out
    · have HQ : Hid (AnyIntsCH B g a len cap m w (.returned v) w2) := Lib.hid ⟨v, l, by omega, HALL.out, rfl, HO2.out, HC2.out.more (by omega), HB2.out⟩
      clear HC2 HB2 HO2 HALL
      go_wp2_with fail
      go_ret
      exact HQ.out

end Go.Proofs.Ytagibgphegoagaa
end

section
/- slices.Sorted over slices.Values, at lists of numbers, by its contract. -/
namespace Go.Proofs.Ytagibgphegoagaa
open Go.RowKit Go.Sort
set_option linter.unusedVariables false

theorem merge_srt (l : List Int) : l.mergeSort (fun x y => decide (x ≤ y)) = El.srt l := by
  refine El.srt_uniq ?_ (List.mergeSort_perm _ _)
  have h := List.pairwise_mergeSort (le := fun x y : Int => decide (x ≤ y)) (fun a b c h1 h2 => by simp only [decide_eq_true_eq] at *; omega) (fun a b => by simp only [Bool.or_eq_true, decide_eq_true_eq]; omega) l
  exact h.imp fun h => by simpa using h

theorem collect_any (w : World) (B1 bp o c : Nat) (a : Option Addr) (l : List Int) (hl : l.length ≤ 1048576) (hB1 : B1 < w.heap.size) (hbp : bp < w.heap.size)
    (hc1 : w.cell? ⟨B1, 0, none⟩ = some (.slice a l.length c)) (hcp : ∀ (j : Nat) x, l[j]? = some x → a = some ⟨bp, o, none⟩ ∧ w.cell? ⟨bp, o + j, none⟩ = some (.int .i64 x)) :
    Calls Try.prog 148 #[.func (.func 149) #[] #[.pointer (some ⟨B1, 0, none⟩)]] w fun e w' => ∃ v', e = .returned v' ∧ w'.ownsRow w.heap.size 3 1 v' l.length (ints l) ∧ Below w.heap.size w w' := by
  have HA := Lib.hid (appendSeqI_any w B1 bp o c a l hl hB1 hbp hc1 hcp)
  clear hc1 hcp
  go_enter Try.func148, Try.ntmps148
  go_wp2_with fail
  refine (HA.out).mono ?_
  rintro e w1 ⟨v, rfl, h1, h2⟩
  have H1 := Lib.hid h1
  have H2 := Lib.hid h2
  clear h1 h2
  go_wp2_with fail
  go_ret
  exact ⟨v, rfl, H1.out, H2.out⟩

theorem sortedI_any (w : World) (B1 bp o c : Nat) (a : Option Addr) (l : List Int) (hl : l.length ≤ 1048576) (hB1 : B1 < w.heap.size) (hbp : bp < w.heap.size)
    (hc1 : w.cell? ⟨B1, 0, none⟩ = some (.slice a l.length c)) (hcp : ∀ (j : Nat) x, l[j]? = some x → a = some ⟨bp, o, none⟩ ∧ w.cell? ⟨bp, o + j, none⟩ = some (.int .i64 x)) :
    Calls Try.prog 104 #[.func (.func 149) #[] #[.pointer (some ⟨B1, 0, none⟩)]] w fun e w' => ∃ a' c', e = .returned (.slice a' (El.srt l).length c') ∧ FlatAt w' (.slice a' (El.srt l).length c') (El.srt l).length (ints (El.srt l)) ∧ Below w.heap.size w w' := by
  have HC := Lib.hid (collect_any w B1 bp o c a l hl hB1 hbp hc1 hcp)
  have hsl := El.srt_length l
  have HMS := Lib.hid (merge_srt l)
  clear hc1 hcp
  go_enter Try.func104, Try.ntmps104
  go_wp2_with fail
  refine (HC.out).mono ?_
  rintro e w1 ⟨v, rfl, hrow, hb⟩
  have HB := Lib.hid hb
  clear hb HC
  rcases hrow.2 with ⟨rfl, hz⟩ | ⟨gb, cap, cur, rfl, hbase, hgb, r1, r2, r3, r4⟩
  · have hl0 : l = [] := List.eq_nil_of_length_eq_zero hz
    subst hl0
    have HS := Lib.hid (Try.slices_Sort_int_none none 0 w1)
    clear hrow hz hsl HMS
    go_wp2_with fail
    refine (HS.out).mono ?_
    rintro e w2 ⟨rfl, rfl⟩
    go_wp2_with fail
    go_ret
    exact ⟨none, 0, rfl, ⟨none, 0, rfl, Nat.le_refl _, fun j u hu => by simp [El.srt, El.insF, El.gapF, El.insN, ints] at hu⟩, HB.out⟩
  · have hH : Holds encZ w1 gb 0 l.toArray := holds_of_block_i hgb (by simpa [ints, encZ] using r4)
    have hgl : gb < w1.heap.size := (Array.getElem?_eq_some_iff.1 hgb).1
    have HS := Lib.hid (Try.slices_Sort_int gb 0 cap l w1 hH hgl (by omega))
    have HR : Hid (∀ n os, FlatAt (grow (putRow encZ (Sort.ahead w1 n) gb 0 (El.srt l).toArray) os) (.slice (some ⟨gb, 0, none⟩) l.length cap) l.length (ints (El.srt l)) ∧ Below w.heap.size w (grow (putRow encZ (Sort.ahead w1 n) gb 0 (El.srt l).toArray) os)) := Lib.hid (fun n os => by
      have h := ownsRow_sorted_i (n := n) (os := os) (ts := El.srt l) hsl hbase hgb r1 r2 r3
      obtain ⟨_, h2, h3⟩ := CellRow.of_own h
      exact ⟨h3.flat h2, HB.out.grown (grownBy_sorted_i _) HB.out.size (fun j hj => by cases hj; exact hbase)⟩)
    clear hrow hbase hgb r1 r2 r3 r4 hH hgl
    go_wp2_with fail
    refine (HS.out).mono ?_
    rintro e w2 ⟨rfl, n, os, rfl⟩
    rw [HMS.out]
    have HR2 := Lib.hid (HR.out n os)
    clear HR HS
    generalize grow (putRow (Value.int .i64) (Sort.ahead w1 n) gb 0 (El.srt l).toArray) os = w3 at *
    have HRES : Hid (∃ a' c', Ending.returned (.slice (some ⟨gb, 0, none⟩) l.length cap) = .returned (.slice a' (El.srt l).length c') ∧ FlatAt w3 (.slice a' (El.srt l).length c') (El.srt l).length (ints (El.srt l)) ∧ Below w.heap.size w w3) := Lib.hid ⟨_, _, by rw [hsl], by rw [hsl]; exact HR2.out.1, HR2.out.2⟩
    clear HR2 hsl HMS
    go_wp2_with fail
    go_ret
    exact HRES.out

end Go.Proofs.Ytagibgphegoagaa
end

section
/- The program's DualPartition, by its contract. -/
namespace Go.Proofs.Ytagibgphegoagaa
open Go.RowKit P El Qk
set_option linter.unusedVariables false

theorem OwnN.part {base : Nat} {w : World} {v : Value} {L : List Int} (h : OwnN base w v L) : ∃ a c, v = .slice a L.length c ∧ (Part.mk a c L).ok w ∧ (L.length = 0 ∨ ∃ g, a = some ⟨g, 0, none⟩ ∧ base ≤ g ∧ L.length ≤ c ∧ CellRow w g (ints L)) := by
  rcases h.2 with ⟨e, hz⟩ | ⟨g, c, cur, e, h1, h2, h3, h4, h5, h6⟩
  · have hL : L = [] := List.eq_nil_of_length_eq_zero hz
    subst hL
    exact ⟨none, 0, e, ⟨⟨_, _, rfl, Nat.le_refl _, fun j u hu => by simp [ints] at hu⟩, fun _ => rfl⟩, .inl rfl⟩
  · subst e
    obtain ⟨q1, q2, q3⟩ := CellRow.of_own h
    exact ⟨_, c, rfl, ⟨q3.flat q2, fun e => by simp at e⟩, .inr ⟨g, rfl, q1, q2, q3⟩⟩

set_option maxRecDepth 100000 in
set_option maxHeartbeats 8000000 in
theorem implDu_any (b o c : Nat) (l : List Int) (p q : Int) (w : World) (hv : FlatAt w (.slice (some ⟨b, o, none⟩) l.length c) l.length (ints l)) (hn : l.length ≤ 1048576) :
    Calls Try.prog 112 #[.slice (some ⟨b, o, none⟩) l.length c, .int .i64 p, .int .i64 q] w (RetE2 (duAll l p q) w) := by
  obtain ⟨W0, hW0⟩ : ∃ W0, W0 = (w.alloc (.cells #[.int .i64 p] 3)).alloc (.cells #[.int .i64 q] 3) := ⟨_, rfl⟩
  have z1 : (w.alloc (.cells #[.int .i64 p] 3)).heap.size = w.heap.size + 1 := by simp
  have hb0 : Below w.heap.size w W0 := by rw [hW0]; exact ((Below.refl _ _).alloc (Nat.le_refl _) _).alloc (by omega) _
  have hp0 : CellRow W0 w.heap.size [.int .i64 p] := by
    have hA : RowIs (w.alloc (.cells #[.int .i64 p] 3)) w.heap.size 3 [.int .i64 p] := heap_alloc_new w _
    rw [hW0]; exact (CellRow.of_row hA).below ((Below.refl (w.heap.size + 1) _).alloc (by omega) _) (by omega)
  have hq0 : CellRow W0 (w.heap.size + 1) [.int .i64 q] := by
    have hA : RowIs ((w.alloc (.cells #[.int .i64 p] 3)).alloc (.cells #[.int .i64 q] 3)) (w.alloc (.cells #[.int .i64 p] 3)).heap.size 3 [.int .i64 q] := heap_alloc_new _ _
    rw [z1] at hA
    rw [hW0]; exact CellRow.of_row hA
  have HPQ : Hid (∀ w1, Below W0.heap.size W0 w1 → w1.cell? ⟨w.heap.size, 0, none⟩ = some (.int .i64 p) ∧ w1.cell? ⟨w.heap.size + 1, 0, none⟩ = some (.int .i64 q)) := Lib.hid (fun w1 hb => ⟨((hp0.below hb hp0.1).2 0 _ rfl).1, ((hq0.below hb hq0.1).2 0 _ rfl).1⟩)
  have HV := Lib.hid (implValidList_any _ l W0 (hv.below hb0) hn)
  have HNONE : Hid (¬ (OkL l ∧ p ≤ q) → ∀ w1, Below W0.heap.size W0 w1 → RetE2 (duAll l p q) w (.returned (.tuple #[.slice (some ⟨w1.heap.size, 0, none⟩) 0 0, .int .i64 0, .int .i64 0, .bool false])) (w1.alloc (.cells #[] 3))) := Lib.hid (fun h w1 hb => by rw [duAll_no h]; exact .inl (RetI2.none w w1 (hb0.trans (hb.mono hb0.size))))
  have HW0 := Lib.hid hW0
  have HB0 := Lib.hid hb0
  have HFV := Lib.hid (hv.below hb0)
  clear hp0 hq0 z1
  by_cases hok : OkL l
  · rw [decide_eq_true hok] at HV
    by_cases hpq : p ≤ q
    · have hpz : ¬ q < p := by omega
      have hpd : decide (q < p) = false := decide_eq_false hpz
      have HF := Lib.hid (duAll_yes ⟨hok, hpq⟩)
      have h64 := hok.1
      have HDL := Lib.hid (du_lens hpq l)
      have HJ : Hid (∀ a1 c1 a2 c2 a3 c3, joined [Part.mk a1 c1 (lowF l p), Part.mk a2 c2 (midF l p q), Part.mk a3 c3 (highF l q)] = duF l p q) := Lib.hid (fun a1 c1 a2 c2 a3 c3 => by simp [joined, duF])
      have HC1 : Hid (∀ W, Below W0.heap.size W0 W → Calls Try.prog 154 #[.slice (some ⟨b, o, none⟩) l.length c, .func (.func 155) #[] #[.pointer (some ⟨w.heap.size, 0, none⟩)]] W (fun e w' => ∃ v, e = .returned v ∧ OwnN W.heap.size w' v (lowF l p) ∧ Below W.heap.size W w')) := Lib.hid (fun W hW =>
        chosen_any (fun e => decide (e < p)) 155 _ (enters_of Try.func155 (by kernel_rfl) rfl) b o c l W ((hv.below hb0).below hW) hn (fun W2 x hW2 => less_any _ x p W2 (HPQ.out W2 (hW.trans (hW2.mono hW.size))).1))
      have HC2 : Hid (∀ W, Below W0.heap.size W0 W → Calls Try.prog 154 #[.slice (some ⟨b, o, none⟩) l.length c, .func (.func 156) #[] #[.pointer (some ⟨w.heap.size, 0, none⟩), .pointer (some ⟨w.heap.size + 1, 0, none⟩)]] W (fun e w' => ∃ v, e = .returned v ∧ OwnN W.heap.size w' v (midF l p q) ∧ Below W.heap.size W w')) := Lib.hid (fun W hW =>
        chosen_any (fun e => decide (p ≤ e ∧ e ≤ q)) 156 _ (enters_of Try.func156 (by kernel_rfl) rfl) b o c l W ((hv.below hb0).below hW) hn (fun W2 x hW2 => amid_any _ _ x p q W2 (HPQ.out W2 (hW.trans (hW2.mono hW.size))).1 (HPQ.out W2 (hW.trans (hW2.mono hW.size))).2))
      have HC3 : Hid (∀ W, Below W0.heap.size W0 W → Calls Try.prog 154 #[.slice (some ⟨b, o, none⟩) l.length c, .func (.func 157) #[] #[.pointer (some ⟨w.heap.size + 1, 0, none⟩)]] W (fun e w' => ∃ v, e = .returned v ∧ OwnN W.heap.size w' v (highF l q) ∧ Below W.heap.size W w')) := Lib.hid (fun W hW =>
        chosen_any (fun e => decide (q < e)) 157 _ (enters_of Try.func157 (by kernel_rfl) rfl) b o c l W ((hv.below hb0).below hW) hn (fun W2 x hW2 => more_any _ x q W2 (HPQ.out W2 (hW.trans (hW2.mono hW.size))).2))
      have HDlen := Lib.hid (duF_length hpq l)
      generalize lowF l p = A at *
      generalize midF l p q = B at *
      generalize highF l q = C at *
      generalize duF l p q = D at *
      have hA64 : A.length ≤ 64 := by have := HDL.out; omega
      have hB64 : B.length ≤ 64 := by have := HDL.out; omega
      clear hok HNONE hv hW0 hb0 hpq
      go_enter Try.func112, Try.ntmps112
      go_wp2_with fail
      rw [← HW0.out]
      refine HV.out.mono ?_
      rintro e w1 ⟨rfl, hb1⟩
      obtain ⟨hcp, hcq⟩ := HPQ.out w1 hb1
      have HB1 := Lib.hid hb1
      clear hb1 HV HPQ
      go_wp2_with fail
      refine (HC1.out w1 HB1.out).mono ?_
      rintro e w2 ⟨v1, rfl, ho1, hb2⟩
      obtain ⟨a1, c1, rfl, hP1, _⟩ := ho1.part
      have HP1 := Lib.hid hP1
      have HB2 := Lib.hid (HB1.out.trans (hb2.mono HB1.out.size))
      clear ho1 hb2 hP1 HB1 HC1 hcp hcq
      go_wp2_with fail
      refine (HC2.out w2 HB2.out).mono ?_
      rintro e w3 ⟨v2, rfl, ho2, hb3⟩
      obtain ⟨a2, c2, rfl, hP2, _⟩ := ho2.part
      have HP2 := Lib.hid hP2
      have HP1' := Lib.hid (HP1.out.below hb3)
      have HB3 := Lib.hid (HB2.out.trans (hb3.mono HB2.out.size))
      clear ho2 hb3 hP2 HB2 HC2 HP1
      go_wp2_with fail
      refine (HC3.out w3 HB3.out).mono ?_
      rintro e w4 ⟨v3, rfl, ho3, hb4⟩
      obtain ⟨a3, c3, rfl, hP3, _⟩ := ho3.part
      have HB4 := Lib.hid (HB3.out.trans (hb4.mono HB3.out.size))
      have hb5 : Below w4.heap.size w4 (w4.alloc (.cells #[.slice a1 A.length c1, .slice a2 B.length c2, .slice a3 C.length c3] 34)) := (Below.refl _ _).alloc (Nat.le_refl _) _
      have hA5 : RowIs (w4.alloc (.cells #[.slice a1 A.length c1, .slice a2 B.length c2, .slice a3 C.length c3] 34)) w4.heap.size 34 [.slice a1 A.length c1, .slice a2 B.length c2, .slice a3 C.length c3] := heap_alloc_new w4 _
      have HCC := Lib.hid (concatI_any w4.heap.size 3 [Part.mk a1 c1 A, Part.mk a2 c2 B, Part.mk a3 c3 C] (w4.alloc (.cells #[.slice a1 A.length c1, .slice a2 B.length c2, .slice a3 C.length c3] 34)) (fun j pt hj => by
        have hlt := hA5.lt
        match j, hj with
        | 0, hj => obtain rfl := Option.some.inj hj; exact ⟨(hA5.cell 0).trans rfl, hlt, (HP1'.out.below hb4).below hb5⟩
        | 1, hj => obtain rfl := Option.some.inj hj; exact ⟨(hA5.cell 1).trans rfl, hlt, (HP2.out.below hb4).below hb5⟩
        | 2, hj => obtain rfl := Option.some.inj hj; exact ⟨(hA5.cell 2).trans rfl, hlt, hP3.below hb5⟩
        | j + 3, hj => simp at hj) (by rw [HJ.out, HDlen.out]; exact hn) (by simp))
      rw [HJ.out] at HCC
      have HB5 := Lib.hid ((HB0.out.trans (HB4.out.mono HB0.out.size)).trans (hb5.mono (by have := HB0.out.size; have := HB4.out.size; omega)))
      clear ho3 hb4 hP3 HB4 HB3 HC3 hb5 hA5 HP1' HP2 HJ
      go_wp2_with fail
      refine HCC.out.mono ?_
      rintro e w6 ⟨v, rfl, ho, hb6⟩
      have HRES : Hid (RetE2 (duAll l p q) w (.returned (.tuple #[v, .int .i64 (A.length : Int), .int .i64 ((A.length : Int) + (B.length : Int)), .bool true])) w6) := Lib.hid (by
        have hbb : Below w.heap.size w w6 := HB5.out.trans (hb6.mono HB5.out.size)
        rw [HF.out]
        obtain ⟨a, cc, rfl, _, hz | ⟨g, rfl, hg, hcap, hr⟩⟩ := ho.part
        · have hD : D = [] := List.eq_nil_of_length_eq_zero hz
          subst hD
          exact .inr ⟨rfl, a, cc, rfl, hbb⟩
        · exact .inl ⟨g, cc, rfl, hcap, Nat.le_trans HB5.out.size hg, hr, hbb⟩)
      clear ho hb6 HCC
      go_wp2_with fail
      refine bodyPost_ret (results_tmp4 rfl _ _ _) rfl ?_
      exact HRES.out
    · have hpz : q < p := by omega
      have hpd : decide (q < p) = true := decide_eq_true hpz
      have HN := Lib.hid (HNONE.out (fun h => hpq h.2))
      clear hok HNONE hv hpq hW0 hb0
      go_enter Try.func112, Try.ntmps112
      go_wp2_with fail
      rw [← HW0.out]
      refine HV.out.mono ?_
      rintro e w1 ⟨rfl, hb1⟩
      obtain ⟨hcp, hcq⟩ := HPQ.out w1 hb1
      have HRES := Lib.hid (HN.out w1 hb1)
      clear hb1 HV HN HPQ
      go_wp2_with fail
      refine bodyPost_ret (results_tmp4 rfl _ _ _) rfl ?_
      exact HRES.out
  · rw [decide_eq_false hok] at HV
    have HN := Lib.hid (HNONE.out (fun h => hok h.1))
    clear hok HNONE hv hW0 hb0
    go_enter Try.func112, Try.ntmps112
    go_wp2_with fail
    rw [← HW0.out]
    refine HV.out.mono ?_
    rintro e w1 ⟨rfl, hb1⟩
    have HRES := Lib.hid (HN.out w1 hb1)
    clear hb1 HV HN
    go_wp2_with fail
    refine bodyPost_ret (results_tmp4 rfl _ _ _) rfl ?_
    exact HRES.out

end Go.Proofs.Ytagibgphegoagaa
end

section
/- The program's SortingPermutation, by its contract: the whole. -/
namespace Go.Proofs.Ytagibgphegoagaa
open Go.RowKit Go.Sort Go.Lib StC P

theorem compareI_any (x y : Int) (W : World) : Calls Try.prog 133 #[.int .i64 x, .int .i64 y] W fun e w' => e = .returned (.int .i64 (compareInt x y)) ∧ w' = W := by
  by_cases h1 : x < y
  · have hd : Hid (compareInt x y = -1) := Lib.hid (by unfold compareInt; rw [if_pos h1])
    go_enter Try.func133, Try.ntmps133
    go_wp2
    go_ret
    exact ⟨by rw [hd.out]; rfl, rfl⟩
  · by_cases h2 : y < x
    · have hd : Hid (compareInt x y = 1) := Lib.hid (by unfold compareInt; rw [if_neg h1, if_pos h2])
      go_enter Try.func133, Try.ntmps133
      go_wp2
      go_ret
      exact ⟨by rw [hd.out]; rfl, rfl⟩
    · have hd : Hid (compareInt x y = 0) := Lib.hid (by unfold compareInt; rw [if_neg h1, if_neg h2])
      go_enter Try.func133, Try.ntmps133
      go_wp2
      go_ret
      exact ⟨by rw [hd.out]; rfl, rfl⟩

/-- The comparison of indices by the numbers that they stand for. -/
def cfL {NN : Nat} (l : List Int) (x y : Fin (NN + 1)) : Int := compareInt (l.getD x.val 0) (l.getD y.val 0)
theorem ltL {NN : Nat} (l : List Int) (x y : Fin (NN + 1)) : ltOf (cfL l) x y = decide (l.getD x.val 0 < l.getD y.val 0) := by
  unfold ltOf cfL compareInt
  by_cases h1 : l.getD x.val 0 < l.getD y.val 0
  · rw [if_pos h1]; simp only [h1]; rfl
  · rw [if_neg h1]
    by_cases h2 : l.getD y.val 0 < l.getD x.val 0
    · rw [if_pos h2]; simp only [h1]; rfl
    · rw [if_neg h2]; simp only [h1]; rfl
theorem swoL {NN : Nat} (l : List Int) : SWO (ltOf (cfL (NN := NN) l)) where
  irrefl x := by rw [ltL]; simp
  trans x y z h1 h2 := by rw [ltL] at *; simp only [decide_eq_true_eq] at *; omega
  ntrans x y z h1 h2 := by rw [ltL] at *; simp only [decide_eq_false_iff_not] at *; omega

theorem filter_vals {NN : Nat} (p : Int → Bool) (L : List (Fin (NN + 1))) : (valsF L).filter p = valsF (L.filter fun x => p (x.val : Int)) := by
  unfold valsF; rw [List.filter_map]; rfl
theorem stab_ofL {NN : Nat} {l : List Int} {M : List (Fin (NN + 1))} (h : St (ltOf (cfL l)) (fins NN) M) : Stab.Of (keyOf l) (iota (NN + 1)) (valsF M) := by
  have hk : ∀ x : Fin (NN + 1), keyOf l (x.val : Int) = l.getD x.val 0 := fun x => by unfold keyOf; rw [Int.toNat_natCast]
  refine ⟨?_, fun q => ?_⟩
  · unfold valsF
    rw [List.pairwise_map]
    refine h.sorted.imp fun {a b} hh => ?_
    rw [ltL] at hh
    rw [hk, hk]
    simp only [decide_eq_false_iff_not] at hh
    omega
  · rw [← valsF_fins, filter_vals, filter_vals]
    congr 1
    by_cases hq : ∃ z : Fin (NN + 1), l.getD z.val 0 = q
    · obtain ⟨z, hz⟩ := hq
      have e : (fun x : Fin (NN + 1) => keyOf l (x.val : Int) == q) = tie (ltOf (cfL l)) z := by
        funext x
        rw [hk]
        unfold tie
        rw [ltL, ltL, hz]
        generalize l.getD x.val 0 = y
        by_cases h1 : y = q
        · rw [h1]; simp
        · have h2 : (y == q) = false := by simpa using h1
          rw [h2]
          by_cases h3 : q < y
          · simp [h3]
          · have h4 : y < q := by omega
            simp [h4]
      have := h.same z
      rw [e]; exact this
    · have e : ∀ L : List (Fin (NN + 1)), L.filter (fun x => keyOf l (x.val : Int) == q) = [] := fun L => by
        rw [List.filter_eq_nil_iff]
        intro x _
        rw [hk]
        intro hx
        exact hq ⟨x, by simpa using hx⟩
      rw [e, e]

set_option maxRecDepth 100000 in
set_option maxHeartbeats 4000000 in
theorem byElement_any (a : Option Addr) (c box : Nat) (l : List Int) (x y : Nat) (W : World) (hbox : W.cell? ⟨box, 0, none⟩ = some (.slice a l.length c)) (H : ∀ (j : Nat) z, l[j]? = some z → ∃ b o, a = some ⟨b, o, none⟩ ∧ W.cell? ⟨b, o + j, none⟩ = some (.int .i64 z)) (hx : x < l.length) (hy : y < l.length) :
    Calls Try.prog 132 #[.int .i64 (x : Int), .int .i64 (y : Int), .pointer (some ⟨box, 0, none⟩)] W fun e w' => e = .returned (.int .i64 (compareInt (l.getD x 0) (l.getD y 0))) ∧ ∃ q os', w' = grow (W.drewN q) os' := by
  obtain ⟨b, o, rfl, hcx⟩ := H _ _ (at_getD hx)
  obtain ⟨b', o', e', hcy⟩ := H _ _ (at_getD hy)
  simp at e'
  obtain ⟨rfl, rfl⟩ := e'
  have HC := Lib.hid (fun W' => compareI_any (l.getD x 0) (l.getD y 0) W')
  have hxz : (x : Int) < l.length := by omega
  have hyz : (y : Int) < l.length := by omega
  generalize l.getD x 0 = p at *
  generalize l.getD y 0 = q at *
  generalize compareInt p q = r at *
  clear H hx hy
  go_enter Try.func132, Try.ntmps132
  go_wp2_with fail
  go_quiet (first | (go_at_call 133; refine Calls.quiet_of_same (HC.out _)))
  go_wp2_with fail
  go_ret
  exact ⟨rfl, nq, #[], by rw [grow_empty]⟩

set_option maxRecDepth 100000 in
set_option maxHeartbeats 4000000 in
theorem implSortP_any (v : Value) (l : List Int) (w : World) (hv : FlatAt w v l.length (ints l)) (hn : l.length ≤ 1048576) :
    Calls Try.prog 84 #[v] w (RetI (sortF l) w) := by
  obtain ⟨a, c, rfl, _⟩ := id hv
  have hB0 : Below w.heap.size w (w.alloc (.cells #[.slice a l.length c] 34)) := (Below.refl _ _).alloc (Nat.le_refl _) _
  have HB0 := Lib.hid hB0
  have hbox := cell_one_new w (.slice a l.length c) 34
  have HV := Lib.hid (hv.below hB0)
  obtain ⟨a', c', he, _, h⟩ := hv
  simp at he
  obtain ⟨rfl, rfl⟩ := he
  have HCELL : Hid (∀ (j : Nat) z, l[j]? = some z → ∃ b o, a = some ⟨b, o, none⟩ ∧ b < w.heap.size ∧ w.cell? ⟨b, o + j, none⟩ = some (.int .i64 z)) := Lib.hid (fun j z hj => h _ _ (ints_at hj))
  clear hB0 h
  obtain ⟨W0, hW0⟩ : ∃ W0, W0 = w.alloc (.cells #[.slice a l.length c] 34) := ⟨_, rfl⟩
  have hbx : W0.cell? ⟨w.heap.size, 0, none⟩ = some (.slice a l.length c) := by rw [hW0]; simp
  have hlt : w.heap.size < W0.heap.size := by rw [hW0]; simp
  rw [← hW0] at HB0 HV
  by_cases hok : OkL l
  · have hd : decide (OkL l) = true := decide_eq_true hok
    have HI := Lib.hid (fun W (h : FlatAt W (.slice a l.length c) l.length (ints l)) => by have := implValidList_any _ l W h hn; rw [hd] at this; exact this)
    have HF := Lib.hid (sortF_yes hok)
    have HID := Lib.hid (fun W => identity_any l.length W hn)
    have eg : ∀ args w, (callFunc 132 args).run Try.prog w = .ok (.enter 132 args) w := enters_of Try.func132 (by kernel_rfl) rfl
    have EG := Lib.hid eg
    clear hok hd hbox eg
    go_enter Try.func84, Try.ntmps84
    go_wp2_with fail
    rw [← hW0]
    refine (HI.out _ HV.out).mono ?_
    rintro e w1 ⟨rfl, hb1⟩
    have hbx1 : w1.cell? ⟨w.heap.size, 0, none⟩ = some (.slice a l.length c) := (hb1.cell (p := ⟨w.heap.size, 0, none⟩) hlt).trans hbx
    have hlt1 : w.heap.size < w1.heap.size := Nat.lt_of_lt_of_le hlt hb1.size
    have HB1 := Lib.hid (HB0.out.trans (hb1.mono HB0.out.size))
    clear hb1 HI HV hbx hlt HB0 hW0
    go_wp2_with fail
    refine (HID.out _).mono ?_
    rintro e w2 ⟨rfl, hrow, hb2⟩
    have HBX2 : Hid (w2.cell? ⟨w.heap.size, 0, none⟩ = some (.slice a l.length c)) := Lib.hid ((hb2.cell (p := ⟨w.heap.size, 0, none⟩) hlt1).trans hbx1)
    have hlt2 : w.heap.size < w2.heap.size := Nat.lt_of_lt_of_le hlt1 hb2.size
    have HB2 := Lib.hid (HB1.out.trans (hb2.mono HB1.out.size))
    have HR2 := Lib.hid (CellRow.of_row hrow)
    clear hrow hb2 hbx1 HID
    by_cases hz : l.length = 0
    · have HFZ : Hid (sortF l = ([], true)) := Lib.hid (by rw [HF.out, hz]; rfl)
      rw [hz] at HR2 HBX2 ⊢
      have HA := Lib.hid (arrange0_any w1.heap.size 0 (.func (.func 132) #[] #[.pointer (some ⟨w.heap.size, 0, none⟩)]) w2 HR2.out.1)
      clear hz
      go_wp2_with fail
      refine (HA.out).mono ?_
      rintro e w3 ⟨g, cg, rfl, hcg, hg, hrow, hb3⟩
      have HRES : Hid (RetI (sortF l) w (.returned (.tuple #[.slice (some ⟨g, 0, none⟩) 0 cg, .bool true])) w3) := Lib.hid (by rw [HFZ.out]; exact ⟨g, cg, rfl, hcg, Nat.le_trans HB2.out.size hg, hrow, HB2.out.trans (hb3.mono HB2.out.size)⟩)
      clear hcg hg hrow hb3 HA
      go_wp2_with fail
      go_ret2
      exact HRES.out
    · obtain ⟨NN, hNN⟩ : ∃ NN, l.length = NN + 1 := ⟨l.length - 1, by omega⟩
      have HNN := Lib.hid hNN
      have HA := Lib.hid (arrangeN_any l.length hNN (cfL l) (swoL l) 132 #[.pointer (some ⟨w.heap.size, 0, none⟩)] EG.out w1.heap.size l.length w2 HR2.out hn (fun W hW x y =>
          byElement_any a c w.heap.size l x.val y.val W ((hW.cell (p := ⟨w.heap.size, 0, none⟩) hlt2).trans HBX2.out) (fun j z hj => by
            obtain ⟨b, o, e, h1, h2⟩ := HCELL.out j z hj
            exact ⟨b, o, e, (hW.cell (p := ⟨b, o + j, none⟩) (show b < w2.heap.size by omega)).trans ((HB2.out.cell (p := ⟨b, o + j, none⟩) h1).trans h2)⟩) (by omega) (by omega)) (Nat.le_refl _))
      clear hz hNN
      go_wp2_with fail
      refine (HA.out).mono ?_
      rintro e w3 ⟨g, cg, M, rfl, hcg, hg, hrow, hM, hb3⟩
      have hst := stab_ofL hM
      rw [← HNN.out] at hst
      have hu := sortTo_uniq hst
      have hlen := sortTo_length l l.length
      rw [hu] at hrow
      have HRES : Hid (RetI (sortF l) w (.returned (.tuple #[.slice (some ⟨g, 0, none⟩) l.length cg, .bool true])) w3) := Lib.hid (by
        rw [HF.out]; exact ⟨g, cg, by rw [hlen], by rw [hlen]; exact hcg, Nat.le_trans HB2.out.size hg, hrow, HB2.out.trans (hb3.mono HB2.out.size)⟩)
      clear hcg hg hrow hM hb3 HA hst hu hlen
      go_wp2_with fail
      go_ret2
      exact HRES.out
  · have hd : decide (OkL l) = false := decide_eq_false hok
    have HI := Lib.hid (fun W (h : FlatAt W (.slice a l.length c) l.length (ints l)) => by have := implValidList_any _ l W h hn; rw [hd] at this; exact this)
    have HF := Lib.hid (sortF_no hok)
    clear hok hd hbox
    go_enter Try.func84, Try.ntmps84
    go_wp2_with fail
    rw [← hW0]
    refine (HI.out _ HV.out).mono ?_
    rintro e w1 ⟨rfl, hb1⟩
    have HRES : Hid (RetI (sortF l) w (.returned (.tuple #[.slice (some ⟨w1.heap.size, 0, none⟩) 0 0, .bool false])) (w1.alloc (.cells #[] 3))) := Lib.hid (by rw [HF.out]; exact RetI.none w w1 (HB0.out.trans (hb1.mono HB0.out.size)))
    clear hb1
    go_wp2_with fail
    go_ret2
    exact HRES.out

end Go.Proofs.Ytagibgphegoagaa
end

section
/- Two pivots: where an element goes, pure. -/
namespace Go.Proofs.Ytagibgphegoagaa
set_option linter.unusedVariables false
namespace Qk
open P El

/-- Is e of part j? -/
def selB (a b : Int) (j : Nat) (e : Int) : Bool := (decide (j = 0) == decide (e < a)) && (decide (j = 2) == decide (b < e))
def offD (a b : Int) (l : List Int) : Nat → Nat
  | 0 => 0
  | j + 1 => offD a b l j + (l.filter (selB a b j)).length
theorem sel_low {a b : Int} (h : a ≤ b) (l : List Int) : l.filter (selB a b 0) = lowF l a := by
  unfold lowF; congr 1; funext e; unfold selB
  by_cases h1 : e < a
  · have h2 : ¬ b < e := by omega
    simp [h1, h2]
  · simp [h1]
theorem sel_mid (a b : Int) (l : List Int) : l.filter (selB a b 1) = midF l a b := by
  unfold midF; congr 1; funext e; unfold selB
  by_cases h1 : e < a <;> by_cases h2 : b < e
  · simp [h1, h2] <;> omega
  · simp [h1, h2] <;> omega
  · simp [h1, h2] <;> omega
  · have h3 : a ≤ e ∧ e ≤ b := by omega
    simp [h1, h2, h3]
theorem sel_high {a b : Int} (h : a ≤ b) (l : List Int) : l.filter (selB a b 2) = highF l b := by
  unfold highF; congr 1; funext e; unfold selB
  by_cases h2 : b < e
  · have h1 : ¬ e < a := by omega
    simp [h1, h2]
  · simp [h2]
theorem filt_at {l : List Int} {p : Int → Bool} {i : Nat} {x : Int} (h : l[i]? = some x) (hp : p x = true) : (l.filter p)[((l.take i).filter p).length]? = some x := by
  have e : l = l.take i ++ x :: l.drop (i + 1) := by
    obtain ⟨hi, hx⟩ := List.getElem?_eq_some_iff.1 h
    rw [← hx, ← List.drop_eq_getElem_cons hi, List.take_append_drop]
  have e2 : l.filter p = (l.take i).filter p ++ x :: (l.drop (i + 1)).filter p := by
    conv => lhs; rw [e]
    rw [List.filter_append, List.filter_cons, if_pos hp]
  rw [e2, List.getElem?_append_right (Nat.le_refl _), Nat.sub_self]; rfl
theorem du_at {a b : Int} {l : List Int} (h : a ≤ b) {j i : Nat} {x : Int} (hj : j < 3) (hi : l[i]? = some x) (hs : selB a b j x = true) : (duF l a b)[offD a b l j + ((l.take i).filter (selB a b j)).length]? = some x := by
  have hf := filt_at hi hs
  have hlt := (List.getElem?_eq_some_iff.1 hf).1
  unfold duF
  have h3 : j = 0 ∨ j = 1 ∨ j = 2 := by omega
  rcases h3 with rfl | rfl | rfl
  · rw [sel_low h l] at hf hlt
    show (lowF l a ++ midF l a b ++ highF l b)[0 + _]? = _
    rw [Nat.zero_add, List.append_assoc, List.getElem?_append_left hlt]; exact hf
  · rw [sel_mid a b l] at hf hlt
    show (lowF l a ++ midF l a b ++ highF l b)[0 + (l.filter (selB a b 0)).length + _]? = _
    rw [Nat.zero_add, sel_low h l, List.append_assoc, List.getElem?_append_right (by omega), Nat.add_sub_cancel_left, List.getElem?_append_left hlt]; exact hf
  · rw [sel_high h l] at hf hlt
    show (lowF l a ++ midF l a b ++ highF l b)[0 + (l.filter (selB a b 0)).length + (l.filter (selB a b 1)).length + _]? = _
    rw [Nat.zero_add, sel_low h l, sel_mid a b l, List.getElem?_append_right (by rw [List.length_append]; omega), List.length_append, Nat.add_sub_cancel_left]; exact hf
theorem offD3 {a b : Int} (h : a ≤ b) (l : List Int) : offD a b l 3 = l.length := by
  show 0 + (l.filter (selB a b 0)).length + (l.filter (selB a b 1)).length + (l.filter (selB a b 2)).length = _
  rw [sel_low h l, sel_mid a b l, sel_high h l, Nat.zero_add]; exact du_lens h l
theorem offD_le {a b : Int} (h : a ≤ b) (l : List Int) {j : Nat} (hj : j ≤ 3) : offD a b l j ≤ l.length := by
  have e := offD3 h l
  have e3 : offD a b l 3 = offD a b l 2 + (l.filter (selB a b 2)).length := rfl
  have e2 : offD a b l 2 = offD a b l 1 + (l.filter (selB a b 1)).length := rfl
  have e1 : offD a b l 1 = offD a b l 0 + (l.filter (selB a b 0)).length := rfl
  have h4 : j = 0 ∨ j = 1 ∨ j = 2 ∨ j = 3 := by omega
  rcases h4 with rfl | rfl | rfl | rfl <;> omega

end Qk
end Go.Proofs.Ytagibgphegoagaa
end

section
/- The draws of lists that may be sorted (IsSorted and the elementary sorts), by their contract. -/
namespace Go.Proofs.Ytagibgphegoagaa
open Go.RowKit P El
set_option linter.unusedVariables false

/-- A short list, not nil. -/
def OneH (w : World) (e : Ending) (w' : World) : Prop :=
  ∃ (g1 c1 : Nat) (L1 : List Int), L1.length ≤ 66 ∧ e = .returned (.slice (some ⟨g1, 0, none⟩) L1.length c1) ∧ L1.length ≤ c1 ∧ CellRow w' g1 (ints L1) ∧ Below w.heap.size w w'

set_option maxRecDepth 100000 in
set_option maxHeartbeats 8000000 in
theorem drawSorted_any (a : Option Addr) (len cap : Nat) (w : World) (h : Code0 w a len) :
    Calls Try.prog 101 #[.slice a len cap] w (OneH w) := by
  have H := Lib.hid (cur_new h cap 72)
  have hb0 : (w.alloc (.cells #[.slice a len cap, .int .i64 0, .int .u64 0] 72)).heap.size = w.heap.size + 1 := by simp
  clear h
  go_enter Try.func101, Try.ntmps101
  go_wp2_with fail
  refine (anyIntsH_any w.heap.size w.heap.size a len cap 0 _ H.out (by omega)).mono ?_
  rintro e w1 ⟨v, l, hl, _, rfl, hown, hc, hb⟩
  obtain ⟨g1, c1, rfl, hg1, hc1, hrow⟩ := hown.row
  have HC1 := Lib.hid hc
  have HB1 := Lib.hid hb
  have HR1 := Lib.hid hrow
  have hgs : w.heap.size < g1 := by omega
  have hw1 : w.heap.size < w1.heap.size := hc.lt
  clear hown hc hb hrow H hb0
  have HI := Lib.hid (l2List_any _ l w1 (HR1.out.flat hc1) (by omega))
  by_cases hok : OkL l
  · rw [decide_eq_true hok] at HI
    have h64 := hok.1
    clear hok
    go_wp2_with fail
    refine (HI.out).mono ?_
    rintro e w2 ⟨rfl, hb2⟩
    have HC2 := Lib.hid (HC1.out.keep (hb2.mono (show w.heap.size + 1 ≤ w1.heap.size by omega)))
    have HB2 := Lib.hid (HB1.out.trans (But.ofBelow (g := w.heap.size) hb2 (Nat.le_refl _)))
    have HR2 := Lib.hid (HR1.out.below hb2 HR1.out.1)
    have hw2 : w.heap.size < w2.heap.size := by have := hb2.size; omega
    clear hb2 HC1 HB1 HR1 HI
    go_wp2_with fail
    refine (one_any w.heap.size w.heap.size a len cap _ 2 _ HC2.out (by omega) (by omega)).mono ?_
    rintro e w3 ⟨bb, rfl, hc, hb⟩
    have HC3 := Lib.hid hc
    have HB3 := Lib.hid (HB2.out.trans hb)
    have HR3 := Lib.hid (HR2.out.but hb (by omega))
    have hw3 : w.heap.size < w3.heap.size := hc.lt
    clear hc hb HC2 HB2 HR2
    cases bb
    · have HRES : Hid (OneH w (.returned (.slice (some ⟨g1, 0, none⟩) l.length c1)) w3) := Lib.hid ⟨g1, c1, l, hl, rfl, hc1, HR3.out, HB3.out.fresh⟩
      go_wp2_with fail
      go_ret
      exact HRES.out
    · have HSO := Lib.hid (l2Sorted_any g1 0 c1 l w3 (HR3.out.flat hc1) h64)
      go_wp2_with fail
      refine (HSO.out).mono ?_
      rintro e w4 ⟨g2, c2, rfl, hc2, hg2, hrow, hb4⟩
      have HC4 := Lib.hid (HC3.out.keep (hb4.mono (show w.heap.size + 1 ≤ w3.heap.size by omega)))
      have HB4 := Lib.hid (HB3.out.trans (But.ofBelow (g := w.heap.size) hb4 (Nat.le_refl _)))
      have hw4 : w.heap.size < w4.heap.size := by have := hb4.size; omega
      have hg2s : w.heap.size < g2 := by omega
      have hsl := srt_length l
      obtain ⟨S, hS⟩ : ∃ S, S = srt l := ⟨_, rfl⟩
      rw [← hS] at hsl hrow hc2 ⊢
      have HR4 := Lib.hid hrow
      have hS64 : S.length ≤ 64 := by omega
      clear hrow hb4 HC3 HB3 HR3 HSO hS hsl hg2
      by_cases h1 : 1 < S.length
      · have h1z : (1 : Int) < S.length := by omega
        have hgt : decide ((1 : Int) < S.length) = true := decide_eq_true h1z
        go_wp2_with fail
        refine (one_any w.heap.size w.heap.size a len cap _ 2 _ HC4.out (by omega) (by omega)).mono ?_
        rintro e w5 ⟨bb, rfl, hc, hb⟩
        have HC5 := Lib.hid hc
        have HB5 := Lib.hid (HB4.out.trans hb)
        have HR5 := Lib.hid (HR4.out.but hb (by omega))
        have hw5 : w.heap.size < w5.heap.size := hc.lt
        clear hc hb HC4 HB4 HR4
        cases bb
        · have HRES : Hid (OneH w (.returned (.slice (some ⟨g2, 0, none⟩) S.length c2)) w5) := Lib.hid ⟨g2, c2, S, by omega, rfl, hc2, HR5.out, HB5.out.fresh⟩
          go_wp2_with fail
          go_ret
          exact HRES.out
        · obtain ⟨n1, hn1⟩ : ∃ n1, n1 = S.length - 1 := ⟨_, rfl⟩
          have hwn : IntKind.i64.wrap ((S.length : Int) - 1) = (n1 : Int) := by rw [IntKind.wrap_i64]; omega
          have hn0 : 0 < n1 := by omega
          have hn64 : n1 ≤ 64 := by omega
          have HN1 := Lib.hid hn1
          clear hn1
          go_wp2_with fail
          refine (pick_any w.heap.size w.heap.size a len cap _ (n1 : Int) _ HC5.out (by omega) (by omega)).mono ?_
          rintro e w6 ⟨r, hr0, hr1, rfl, hc, hb⟩
          obtain ⟨i, rfl⟩ : ∃ i : Nat, r = i := ⟨r.toNat, by omega⟩
          have hi : i < n1 := by omega
          have hi1 : i + 1 < S.length := by have := HN1.out; omega
          have HB6 := Lib.hid (HB5.out.trans hb)
          have HR6 := Lib.hid (HR5.out.but hb (by omega))
          clear hc hb HC5 HB5 HR5 hr0 hr1
          obtain ⟨x, hx⟩ : ∃ x, x = S.getD i 0 := ⟨_, rfl⟩
          obtain ⟨y, hy⟩ : ∃ y, y = S.getD (i + 1) 0 := ⟨_, rfl⟩
          obtain ⟨hcx, hfx⟩ := HR6.out.2 i _ (ints_at (at_getD (by omega)))
          obtain ⟨hcy, hfy⟩ := HR6.out.2 (i + 1) _ (ints_at (at_getD hi1))
          rw [← hx] at hcx
          rw [← hy] at hcy
          obtain ⟨i1, hi1e⟩ : ∃ i1, i1 = i + 1 := ⟨_, rfl⟩
          rw [← hi1e] at hcy hfy hi1
          have hwi : IntKind.i64.wrap ((i : Int) + 1) = (i1 : Int) := by rw [IntKind.wrap_i64]; omega
          have hiz : (i : Int) < S.length := by omega
          have hi1z : (i1 : Int) < S.length := by omega
          have hne1 : ¬ i = i1 := by omega
          have hne2 : ¬ i1 = i := by omega
          have hiS : i < S.length := by omega
          have HRES : Hid (OneH w (.returned (.slice (some ⟨g2, 0, none⟩) S.length c2)) ((w6.setCell ⟨g2, i, none⟩ (.int .i64 y)).setCell ⟨g2, i1, none⟩ (.int .i64 x))) := Lib.hid (by
            have h1 := (HR6.out.set i (.int .i64 y) (by rw [ints_length]; exact hiS)).set i1 (.int .i64 x) (by rw [List.length_set, ints_length]; exact hi1)
            rw [ints_set, ints_set] at h1
            have hfr := HB6.out.fresh
            refine ⟨g2, c2, (S.set i y).set i1 x, by simp; omega, by simp, by simp; exact hc2, h1, (hfr.setCell (p := ⟨g2, i, none⟩) (by show w.heap.size ≤ g2; omega) _).setCell (p := ⟨g2, i1, none⟩) (by show w.heap.size ≤ g2; omega) _⟩)
          clear hx hy hi1e
          go_wp2_with fail
          go_ret
          exact HRES.out
      · have h1z : ¬ (1 : Int) < S.length := by omega
        have hgt : decide ((1 : Int) < S.length) = false := decide_eq_false h1z
        have HRES : Hid (OneH w (.returned (.slice (some ⟨g2, 0, none⟩) S.length c2)) w4) := Lib.hid ⟨g2, c2, S, by omega, rfl, hc2, HR4.out, HB4.out.fresh⟩
        go_wp2_with fail
        go_ret
        exact HRES.out
  · rw [decide_eq_false hok] at HI
    clear hok
    go_wp2_with fail
    refine (HI.out).mono ?_
    rintro e w2 ⟨rfl, hb2⟩
    have HRES : Hid (OneH w (.returned (.slice (some ⟨g1, 0, none⟩) l.length c1)) w2) := Lib.hid ⟨g1, c1, l, hl, rfl, hc1, HR1.out.below hb2 HR1.out.1, (HB1.out.trans (But.ofBelow (g := w.heap.size) hb2 (Nat.le_refl _))).fresh⟩
    clear hb2 HI
    go_wp2_with fail
    go_ret
    exact HRES.out

end Go.Proofs.Ytagibgphegoagaa
end

section
/- The program's KthSmallest and the lower median, by contracts. -/
namespace Go.Proofs.Ytagibgphegoagaa
open Go.RowKit P El Qk Sl
set_option linter.unusedVariables false

set_option maxRecDepth 100000 in
set_option maxHeartbeats 4000000 in
theorem rank_any (v : Value) (l : List Int) (a : Option Addr) (c : Nat) (hs : v = .slice a l.length c) (k : Int) (w : World) (hv : FlatAt w v l.length (ints l)) (hn : l.length ≤ 1048576) :
    Calls Try.prog 103 #[v, .int .i64 k] w fun e w' => e = .returned (.bool (decide (OkK l k))) ∧ Below w.heap.size w w' := by
  subst hs
  have HV := Lib.hid (implValidList_any _ l w hv hn)
  clear hv
  by_cases hok : OkL l
  · rw [decide_eq_true hok] at HV
    by_cases h0 : 0 ≤ k
    · have d0 : decide (0 ≤ k) = true := decide_eq_true h0
      by_cases h1 : k < (l.length : Int)
      · have d1 : decide (k < (l.length : Int)) = true := decide_eq_true h1
        have HR : Hid (decide (OkK l k) = true) := Lib.hid (decide_eq_true ⟨hok, h0, h1⟩)
        clear hok
        go_enter Try.func103, Try.ntmps103
        go_wp2_with fail
        refine HV.out.mono ?_
        rintro e w1 ⟨rfl, hb1⟩
        have HB := Lib.hid hb1
        clear hb1 HV
        go_wp2_with fail
        go_ret
        exact ⟨by rw [HR.out]; rfl, HB.out⟩
      · have d1 : decide (k < (l.length : Int)) = false := decide_eq_false h1
        have HR : Hid (decide (OkK l k) = false) := Lib.hid (decide_eq_false fun h => h1 h.2.2)
        clear hok
        go_enter Try.func103, Try.ntmps103
        go_wp2_with fail
        refine HV.out.mono ?_
        rintro e w1 ⟨rfl, hb1⟩
        have HB := Lib.hid hb1
        clear hb1 HV
        go_wp2_with fail
        go_ret
        exact ⟨by rw [HR.out]; rfl, HB.out⟩
    · have d0 : decide (0 ≤ k) = false := decide_eq_false h0
      have HR : Hid (decide (OkK l k) = false) := Lib.hid (decide_eq_false fun h => h0 h.2.1)
      clear hok
      go_enter Try.func103, Try.ntmps103
      go_wp2_with fail
      refine HV.out.mono ?_
      rintro e w1 ⟨rfl, hb1⟩
      have HB := Lib.hid hb1
      clear hb1 HV
      go_wp2_with fail
      go_ret
      exact ⟨by rw [HR.out]; rfl, HB.out⟩
  · rw [decide_eq_false hok] at HV
    have HR : Hid (decide (OkK l k) = false) := Lib.hid (decide_eq_false fun h => hok h.1)
    clear hok
    go_enter Try.func103, Try.ntmps103
    go_wp2_with fail
    refine HV.out.mono ?_
    rintro e w1 ⟨rfl, hb1⟩
    have HB := Lib.hid hb1
    clear hb1 HV
    go_wp2_with fail
    go_ret
    exact ⟨by rw [HR.out]; rfl, HB.out⟩

/-- The cells behind a list, told for the iterator. -/
theorem flat_behind {w : World} {a : Option Addr} {c : Nat} {l : List Int} (hw : 0 < w.heap.size) (h : FlatAt w (.slice a l.length c) l.length (ints l)) : ∃ bp oo, bp < w.heap.size ∧ ∀ (j : Nat) x, l[j]? = some x → a = some ⟨bp, oo, none⟩ ∧ w.cell? ⟨bp, oo + j, none⟩ = some (.int .i64 x) := by
  obtain ⟨a0, c0, e0, _, h0⟩ := h
  simp at e0
  obtain ⟨rfl, rfl⟩ := e0
  cases hl0 : l[0]? with
  | none =>
    refine ⟨0, 0, hw, fun j x hj => ?_⟩
    have := List.getElem?_eq_none_iff.1 hl0
    have := (List.getElem?_eq_some_iff.1 hj).1
    omega
  | some x0 =>
    obtain ⟨b', o', e', hlt, _⟩ := h0 0 _ (ints_at hl0)
    refine ⟨b', o', hlt, fun j x hj => ?_⟩
    obtain ⟨b2, o2, e2, _, hc⟩ := h0 j _ (ints_at hj)
    have e3 := e'.symm.trans e2
    simp at e3
    obtain ⟨rfl, rfl⟩ := e3
    exact ⟨e2, hc⟩

set_option maxRecDepth 100000 in
set_option maxHeartbeats 4000000 in
theorem implKth_any (a : Option Addr) (c : Nat) (l : List Int) (k : Int) (w : World) (hv : FlatAt w (.slice a l.length c) l.length (ints l)) (hn : l.length ≤ 1048576) :
    Calls Try.prog 37 #[.slice a l.length c, .int .i64 k] w fun e w' => e = .returned (.tuple #[.int .i64 (kthAll l k).1, .bool (kthAll l k).2]) ∧ Below w.heap.size w w' := by
  have HRK := Lib.hid (rank_any _ l a c rfl k w hv hn)
  have HV := Lib.hid hv
  clear hv
  by_cases hok : OkK l k
  · rw [decide_eq_true hok] at HRK
    obtain ⟨K, rfl⟩ : ∃ K : Nat, k = (K : Int) := ⟨k.toNat, by have := hok.2.1; omega⟩
    have hK : K < l.length := by have := hok.2.2; omega
    have HF := Lib.hid (kthAll_yes hok.1 hK)
    have HVS := Lib.hid (fun W => vals_any a l.length c W)
    have hKz : (K : Int) < (l.length : Int) := by omega
    clear hok
    go_enter Try.func37, Try.ntmps37
    go_wp2_with fail
    refine HRK.out.mono ?_
    rintro e w1 ⟨rfl, hb1⟩
    have HV1 := Lib.hid (HV.out.below hb1)
    have HB1 := Lib.hid hb1
    clear hb1 HV HRK
    go_wp2_with fail
    refine (HVS.out _).mono ?_
    rintro e w2 ⟨rfl, rfl⟩
    have hal : Below w1.heap.size w1 (w1.alloc (.cells #[.slice a l.length c] 34)) := (Below.refl _ _).alloc (Nat.le_refl _) _
    have bN := (Boxed.new w1 34 (.slice a l.length c)).cell
    have hsz : (w1.alloc (.cells #[.slice a l.length c] 34)).heap.size = w1.heap.size + 1 := by simp
    have HV2 := Lib.hid (HV1.out.below hal)
    have HB2 := Lib.hid (HB1.out.trans (hal.mono HB1.out.size))
    generalize w1.alloc (.cells #[.slice a l.length c] 34) = w2 at *
    obtain ⟨bp, oo, hbp, hcp⟩ := flat_behind (by omega) HV2.out
    have HSO := Lib.hid (sortedI_any w2 w1.heap.size bp oo c a l (by omega) (by omega) hbp bN hcp)
    clear hal bN hbp hcp HVS HV1 HB1 hsz
    go_wp2_with fail
    refine (HSO.out).mono ?_
    rintro e w3 ⟨a3, c3, rfl, hfl, hb3⟩
    have HB3 := Lib.hid (HB2.out.trans (hb3.mono HB2.out.size))
    have hKs : K < (srt l).length := by rw [srt_length]; exact hK
    obtain ⟨x, hx⟩ : ∃ x, x = (srt l).getD K 0 := ⟨_, rfl⟩
    have h1 := at_getD hKs
    rw [← hx] at h1 HF
    rw [srt_length] at hfl ⊢
    obtain ⟨a5, c5, e5, _, h5⟩ := hfl
    simp at e5
    obtain ⟨rfl, rfl⟩ := e5
    obtain ⟨b6, o6, rfl, _, hcx⟩ := h5 _ _ (ints_at h1)
    clear hb3 HSO HV2 HB2 h5 h1 hx hKs
    go_wp2_with fail
    go_ret2
    exact ⟨by rw [HF.out]; rfl, HB3.out⟩
  · rw [decide_eq_false hok] at HRK
    have HF := Lib.hid (kthAll_no hok)
    clear hok
    go_enter Try.func37, Try.ntmps37
    go_wp2_with fail
    refine HRK.out.mono ?_
    rintro e w1 ⟨rfl, hb1⟩
    have HB1 := Lib.hid hb1
    clear hb1 HV HRK
    go_wp2_with fail
    go_ret2
    exact ⟨by rw [HF.out]; rfl, HB1.out⟩

end Go.Proofs.Ytagibgphegoagaa
end

section
/- The program's PartialSort, by its contract. -/
namespace Go.Proofs.Ytagibgphegoagaa
open Go.RowKit Go.Sort P El Qk Sl
set_option linter.unusedVariables false

theorem grown_part {w : World} {g n off : Nat} {os : Array Obj} (d : Array Int) : w.grownBy (grow (putRow (Value.int .i64) (Sort.ahead w n) g off d) os) (some g) := by
  refine ⟨rfl, rfl, rfl, by simp, fun k hk hne => ?_⟩
  rw [heap_grow_old _ _ (by simpa using hk)]
  have : g ≠ k := fun e => hne (by rw [e])
  simp [putRow, mapBlock, Sort.ahead, Array.getElem?_modify, this]

theorem sorted_part {w : World} {g n : Nat} {os : Array Obj} {A B B' : List Int} (h : CellRow w g (ints (A ++ B))) (hl : B'.length = B.length) : CellRow (grow (putRow (Value.int .i64) (Sort.ahead w n) g A.length B'.toArray) os) g (ints (A ++ B')) := by
  have hg : g < (putRow (Value.int .i64) (Sort.ahead w n) g A.length B'.toArray).heap.size := by simpa using h.1
  have hH : Holds (Value.int .i64) (Sort.ahead w n) g A.length B.toArray := fun j hj => by
    have hj' : j < B.length := by simpa using hj
    have e : (ints (A ++ B))[A.length + j]? = some (.int .i64 B.toArray[j]!) := by
      refine ints_at ?_
      rw [List.getElem?_append_right (by omega), Nat.add_sub_cancel_left, List.getElem?_eq_getElem hj']
      rw [getElem!_pos _ j hj]; simp
    exact h.2 _ _ e
  refine ⟨by rw [size_grow]; omega, fun j u hu => ⟨?_, ?_⟩⟩
  · rw [cell?_grow _ _ _ hg]
    by_cases hj : j < A.length
    · rw [cell?_putRow_other _ _ _ _ _ _ (.inr (.inl hj))]
      refine (h.2 j u ?_).1
      rw [← hu, ints_append, ints_append, List.getElem?_append_left (by rw [ints_length]; exact hj), List.getElem?_append_left (by rw [ints_length]; exact hj)]
    · obtain ⟨i, rfl⟩ : ∃ i, j = A.length + i := ⟨j - A.length, by omega⟩
      have hlt := (List.getElem?_eq_some_iff.1 hu).1
      rw [ints_length, List.length_append] at hlt
      have hi : i < B'.length := by omega
      rw [cell?_putRow _ _ _ _ _ _ hH (by simpa using hl) i (by simpa using hi)]
      rw [← hu, ints_append, List.getElem?_append_right (by rw [ints_length]; omega), ints_length, Nat.add_sub_cancel_left]
      rw [ints_at (List.getElem?_eq_getElem hi), getElem!_pos _ i (by simpa using hi)]; simp
  · have hf : (putRow (Value.int .i64) (Sort.ahead w n) g A.length B'.toArray).frozen? ⟨g, j, none⟩ = false := by
      rw [frozen?_putRow]
      have hlt := (List.getElem?_eq_some_iff.1 hu).1
      rw [ints_length, List.length_append] at hlt
      have hj : j < (ints (A ++ B)).length := by rw [ints_length, List.length_append]; omega
      exact (h.2 j _ (List.getElem?_eq_getElem hj)).2
    rw [frozen?_grow _ _ _ hg]; exact hf

set_option maxRecDepth 100000 in
set_option maxHeartbeats 8000000 in
theorem implPsoY_any (b o c : Nat) (l : List Int) (K : Nat) (w : World) (hv : FlatAt w (.slice (some ⟨b, o, none⟩) l.length c) l.length (ints l)) (hok : OkL l) (hK : K ≤ l.length) :
    Calls Try.prog 39 #[.slice (some ⟨b, o, none⟩) l.length c, .int .i64 (K : Int)] w (RetI (psF l K, true) w) := by
  have hn : l.length ≤ 1048576 := by have := hok.1; omega
  have HVL := Lib.hid (implValidList_any _ l w hv hn)
  have HV := Lib.hid hv
  clear hv
  rw [decide_eq_true hok] at HVL
  have h0 : ¬ (K : Int) < 0 := by omega
  have h1 : ¬ (l.length : Int) < (K : Int) := by omega
  have d0 : decide ((K : Int) < 0) = false := decide_eq_false h0
  have d1 : decide ((l.length : Int) < (K : Int)) = false := decide_eq_false h1
  have HVW := Lib.hid (fun W (h : Below w.heap.size w W) => HV.out.below h)
  have HSP := Lib.hid (fun W (h : FlatAt W (.slice (some ⟨b, o, none⟩) l.length c) l.length (ints l)) => implSortP_any _ l W h hn)
  rw [sortF_yes hok] at HSP
  obtain ⟨Pm, hPm⟩ : ∃ Pm, Pm = sortTo l l.length := ⟨_, rfl⟩
  have hPl : Pm.length = l.length := by rw [hPm]; exact sortTo_length l l.length
  obtain ⟨A, hA⟩ : ∃ A, A = Pm.take K := ⟨_, rfl⟩
  obtain ⟨B, hB⟩ : ∃ B, B = Pm.drop K := ⟨_, rfl⟩
  have hAl : A.length = K := by rw [hA, List.length_take]; omega
  have hBl : B.length = l.length - K := by rw [hB, List.length_drop]; omega
  have HPAB : Hid (Pm = A ++ B) := Lib.hid (by rw [hA, hB, List.take_append_drop])
  have HRESF : Hid (psF l K = pickAt l (A ++ srt B)) := Lib.hid (by unfold psF; rw [hA, hB, hPm])
  have HIN : Hid (∀ (j : Nat) i, (A ++ srt B)[j]? = some i → 0 ≤ i ∧ i < l.length) := Lib.hid (fun j i hj => by
    have hp : (A ++ srt B).Perm (iota l.length) := ((List.Perm.refl _).append (srt_perm _)).trans (by rw [← HPAB.out, hPm]; exact sortTo_perm l l.length)
    exact iota_mem.1 (hp.mem_iff.1 (List.mem_of_getElem? hj)))
  have hsl := srt_length B
  have HEL := Lib.hid (fun v W h h' => elementsAt_any (.slice (some ⟨b, o, none⟩) l.length c) v l (A ++ srt B) W h h' (by rw [List.length_append, hsl]; omega) HIN.out)
  have hABl : (A ++ srt B).length = l.length := by rw [List.length_append, hsl]; omega
  rw [hABl] at HEL
  rw [← HRESF.out] at HEL
  rw [← hPm] at HSP
  have HMS := Lib.hid (merge_srt B)
  clear hok hPm hA hB HRESF HIN hABl
  generalize psF l K = R at *
  go_enter Try.func39, Try.ntmps39
  go_wp2_with fail
  refine HVL.out.mono ?_
  rintro e w1 ⟨rfl, hb1⟩
  have HV1 := Lib.hid (HV.out.below hb1)
  have HB1 := Lib.hid hb1
  clear hb1 HV HVL
  go_wp2_with fail
  refine (HSP.out _ HV1.out).mono ?_
  rintro e w2 ⟨g, cap, rfl, hcap, hg, hrow, hb2⟩
  have HV2 := Lib.hid (HV1.out.below hb2)
  have HB2 := Lib.hid (HB1.out.trans (hb2.mono HB1.out.size))
  have HG : Hid (w.heap.size ≤ g) := Lib.hid (Nat.le_trans HB1.out.size hg)
  simp only at hcap hrow
  rw [hPl] at hcap
  rw [HPAB.out] at hrow
  have HROW := Lib.hid hrow
  simp only
  rw [hPl]
  clear hb2 hg hrow HV1 HB1 HSP HPAB hPl
  have hKc : K ≤ cap := by omega
  have hKz : (K : Int) ≤ (l.length : Int) := by omega
  have HTAIL : Hid (∀ W, CellRow W g (ints (A ++ srt B)) → Below w.heap.size w W → Calls Try.prog 110 #[.slice (some ⟨b, o, none⟩) l.length c, .slice (some ⟨g, 0, none⟩) l.length cap] W fun e w' => ∃ g2 c2, e = .returned (.slice (some ⟨g2, 0, none⟩) R.length c2) ∧ RetI (R, true) w (.returned (.tuple #[.slice (some ⟨g2, 0, none⟩) R.length c2, .bool true])) w') := Lib.hid (fun W hr hb => by
    refine (HEL.out _ W (HVW.out W hb) (hr.flat hcap)).mono ?_
    rintro e w' ⟨g2, c2, rfl, hc2, hg2, hr2, hb2⟩
    exact ⟨g2, c2, rfl, g2, c2, rfl, hc2, Nat.le_trans hb.size hg2, hr2, hb.trans (hb2.mono hb.size)⟩)
  clear HEL HVW HV2
  by_cases hlt : K < l.length
  · have HSORT : Hid (Calls Try.prog 109 #[.slice (some ⟨g, K, none⟩) (l.length - K) (cap - K)] w2 fun e w' => e = .returned (.tuple #[]) ∧ CellRow w' g (ints (A ++ srt B)) ∧ Below w.heap.size w w') := Lib.hid (by
      have hH : Holds (Value.int .i64) w2 g K B.toArray := fun j hj => by
        have hj' : j < B.length := by simpa using hj
        have e : (ints (A ++ B))[K + j]? = some (.int .i64 B.toArray[j]!) := by
          refine ints_at ?_
          rw [List.getElem?_append_right (by omega), hAl, Nat.add_sub_cancel_left, List.getElem?_eq_getElem hj', getElem!_pos _ j hj]; simp
        exact HROW.out.2 _ _ e
      have := Try.slices_Sort_int g K (cap - K) B w2 hH HROW.out.1 (by omega)
      rw [hBl] at this
      refine this.mono ?_
      rintro e w' ⟨rfl, n, os, rfl⟩
      rw [HMS.out]
      refine ⟨rfl, ?_, ?_⟩
      · have h := sorted_part (n := n) (os := os) HROW.out hsl
        rw [hAl] at h; exact h
      · exact HB2.out.grown (grown_part _) HB2.out.size (fun j hj => by cases hj; exact HG.out))
    have hne1 : ¬ K = cap := by omega
    have hne2 : ¬ cap = K := by omega
    have hnz : (l.length : Int) - (K : Int) = ((l.length - K : Nat) : Int) := by omega
    clear HROW HMS HB2 HG hAl hBl hsl
    go_wp2_with fail
    refine HSORT.out.mono ?_
    rintro e w3 ⟨rfl, hr3, hb3⟩
    have HT := Lib.hid (HTAIL.out w3 hr3 hb3)
    clear hr3 hb3 HSORT HTAIL
    go_wp2_with fail
    refine HT.out.mono ?_
    rintro e w4 ⟨g2, c2, rfl, hres⟩
    have HRES := Lib.hid hres
    clear hres HT
    go_wp2_with fail
    go_ret2
    exact HRES.out
  · have hKn : K = l.length := by omega
    have hB0 : B = [] := List.eq_nil_of_length_eq_zero (by omega)
    have HR0 : Hid (CellRow w2 g (ints (A ++ srt B))) := Lib.hid (by
      have e : A ++ srt B = A ++ B := by rw [hB0]; rfl
      rw [e]; exact HROW.out)
    have HSORT0 := Lib.hid (fun p cp => (Try.slices_Sort_int_none p cp w2).mono (R' := fun e w' => e = .returned (.tuple #[]) ∧ CellRow w' g (ints (A ++ srt B)) ∧ Below w.heap.size w w') (by
      rintro e w' ⟨rfl, rfl⟩
      exact ⟨rfl, HR0.out, HB2.out⟩))
    clear HROW HMS HB2 HG hAl hBl hsl hB0 HR0 hlt
    subst hKn
    by_cases hcc : l.length = cap
    · have hcc2 : cap = l.length := hcc.symm
      have HCC := Lib.hid hcc
      clear hcc2
      have HSORT := Lib.hid (fun p cp => HSORT0.out p cp)
      clear HSORT0
      subst hcc
      go_wp2_with fail
      refine (HSORT.out _ _).mono ?_
      rintro e w3 ⟨rfl, hr3, hb3⟩
      have HT := Lib.hid (HTAIL.out w3 hr3 hb3)
      clear hr3 hb3 HSORT HTAIL
      go_wp2_with fail
      refine HT.out.mono ?_
      rintro e w4 ⟨g2, c2, rfl, hres⟩
      have HRES := Lib.hid hres
      clear hres HT
      go_wp2_with fail
      go_ret2
      exact HRES.out
    · have hne1 : ¬ cap = l.length := fun e => hcc e.symm
      have hnn : l.length - l.length = 0 := Nat.sub_self _
      go_wp2_with fail
      refine (HSORT0.out _ _).mono ?_
      rintro e w3 ⟨rfl, hr3, hb3⟩
      have HT := Lib.hid (HTAIL.out w3 hr3 hb3)
      clear hr3 hb3 HSORT0 HTAIL
      go_wp2_with fail
      refine HT.out.mono ?_
      rintro e w4 ⟨g2, c2, rfl, hres⟩
      have HRES := Lib.hid hres
      clear hres HT
      go_wp2_with fail
      go_ret2
      exact HRES.out

set_option maxRecDepth 100000 in
set_option maxHeartbeats 8000000 in
theorem implPso_any (b o c : Nat) (l : List Int) (k : Int) (w : World) (hv : FlatAt w (.slice (some ⟨b, o, none⟩) l.length c) l.length (ints l)) (hn : l.length ≤ 1048576) :
    Calls Try.prog 39 #[.slice (some ⟨b, o, none⟩) l.length c, .int .i64 k] w (RetIE (psAll l k) w) := by
  have HVL := Lib.hid (implValidList_any _ l w hv hn)
  have HV := Lib.hid hv
  clear hv
  by_cases hok : OkL l
  · rw [decide_eq_true hok] at HVL
    by_cases h0 : k < 0
    · have d0 : decide (k < 0) = true := decide_eq_true h0
      rw [psAll_no (fun h => by have := h.2.1; omega)]
      clear hok
      go_enter Try.func39, Try.ntmps39
      go_wp2_with fail
      refine HVL.out.mono ?_
      rintro e w1 ⟨rfl, hb1⟩
      have HRES := Lib.hid (RetIE.nil0 w w1 hb1)
      clear hb1 HV HVL
      go_wp2_with fail
      go_ret2
      exact HRES.out
    · have d0 : decide (k < 0) = false := decide_eq_false h0
      by_cases h1 : (l.length : Int) < k
      · have d1 : decide ((l.length : Int) < k) = true := decide_eq_true h1
        rw [psAll_no (fun h => by have := h.2.2; omega)]
        clear hok
        go_enter Try.func39, Try.ntmps39
        go_wp2_with fail
        refine HVL.out.mono ?_
        rintro e w1 ⟨rfl, hb1⟩
        have HRES := Lib.hid (RetIE.nil0 w w1 hb1)
        clear hb1 HV HVL
        go_wp2_with fail
        go_ret2
        exact HRES.out
      · have d1 : decide ((l.length : Int) < k) = false := decide_eq_false h1
        obtain ⟨K, rfl⟩ : ∃ K : Nat, k = (K : Int) := ⟨k.toNat, by omega⟩
        have hK : K ≤ l.length := by omega
        rw [psAll_yes hok hK]
        exact (implPsoY_any b o c l K w HV.out hok hK).mono fun e w2 h => .inl h
  · rw [decide_eq_false hok] at HVL
    rw [psAll_no (fun h => hok h.1)]
    clear hok
    go_enter Try.func39, Try.ntmps39
    go_wp2_with fail
    refine HVL.out.mono ?_
    rintro e w1 ⟨rfl, hb1⟩
    have HRES := Lib.hid (RetIE.nil0 w w1 hb1)
    clear hb1 HV HVL
    go_wp2_with fail
    go_ret2
    exact HRES.out

end Go.Proofs.Ytagibgphegoagaa
end

section
/- vList of the laws: a valid list, by its contract. -/
namespace Go.Proofs.Ytagibgphegoagaa
open Go.RowKit P El
set_option linter.unusedVariables false

/-- A valid list in a new row. -/
def OneV (w : World) (e : Ending) (w' : World) : Prop :=
  ∃ (g1 c1 : Nat) (L1 : List Int), OkL L1 ∧ e = .returned (.slice (some ⟨g1, 0, none⟩) L1.length c1) ∧ L1.length ≤ c1 ∧ CellRow w' g1 (ints L1) ∧ Below w.heap.size w w'

set_option maxRecDepth 100000 in
theorem vList_any (a : Option Addr) (len cap : Nat) (w : World) (h : Code0 w a len) :
    Calls Try.prog 36 #[.slice a len cap] w (OneV w) := by
  have HDR := Lib.hid (drawSorted_any a len cap w h)
  clear h
  go_enter Try.func36, Try.ntmps36
  go_wp2_with fail
  refine HDR.out.mono ?_
  rintro e w1 ⟨g, c, L, hl, rfl, hc, hrow, hb⟩
  have HI := Lib.hid (specValidList_any (.slice (some ⟨g, 0, none⟩) L.length c) L w1 (hrow.flat hc) (by omega))
  have HR := Lib.hid hrow
  have HB := Lib.hid hb
  have HC := Lib.hid hc
  clear hrow hb HDR hc
  by_cases hok : OkL L
  · rw [decide_eq_true hok] at HI
    have HOK := Lib.hid hok
    clear hok
    go_wp2_with fail
    refine HI.out.mono ?_
    rintro e w2 ⟨rfl, hb2⟩
    have HRES : Hid (OneV w (.returned (.slice (some ⟨g, 0, none⟩) L.length c)) w2) := Lib.hid ⟨g, c, L, HOK.out, rfl, HC.out, HR.out.below hb2 HR.out.1, HB.out.trans (hb2.mono HB.out.size)⟩
    clear hb2 HI HR HB
    go_wp2_with fail
    go_ret
    exact HRES.out
  · rw [decide_eq_false hok] at HI
    clear hok
    go_wp2_with fail
    refine HI.out.mono ?_
    rintro e w2 ⟨rfl, hb2⟩
    have hbb := HB.out.trans (hb2.mono HB.out.size)
    have HRES : Hid (OneV w (.returned (.slice (some ⟨w2.heap.size, 0, none⟩) 4 4)) (w2.alloc (.cells #[.int .i64 3, .int .i64 1, .int .i64 2, .int .i64 1] 3))) := Lib.hid
      ⟨w2.heap.size, 4, [3, 1, 2, 1], ⟨by decide, by decide⟩, rfl, Nat.le_refl _, CellRow.of_row (heap_alloc_new w2 _), hbb.alloc hbb.size _⟩
    clear hb2 HI HR HB hbb
    go_wp2_with fail
    go_ret
    exact HRES.out

end Go.Proofs.Ytagibgphegoagaa
end

section
/- The program's NthElement, by its contract. -/
namespace Go.Proofs.Ytagibgphegoagaa
open Go.RowKit P El Qk Sl
set_option linter.unusedVariables false

set_option maxRecDepth 100000 in
set_option maxHeartbeats 4000000 in
theorem implNth_any (b o c : Nat) (l : List Int) (k : Int) (w : World) (hv : FlatAt w (.slice (some ⟨b, o, none⟩) l.length c) l.length (ints l)) (hn : l.length ≤ 1048576) :
    Calls Try.prog 44 #[.slice (some ⟨b, o, none⟩) l.length c, .int .i64 k] w (RetIE (nthAll l k) w) := by
  have HK := Lib.hid (implKth_any (some ⟨b, o, none⟩) c l k w hv hn)
  have HV := Lib.hid hv
  clear hv
  by_cases hok : OkK l k
  · obtain ⟨K, rfl⟩ : ∃ K : Nat, k = (K : Int) := ⟨k.toNat, by have := hok.2.1; omega⟩
    have hK : K < l.length := by have := hok.2.2; omega
    have hF := nthAll_yes hok.1 hK
    rw [kthAll_yes hok.1 hK] at HK
    obtain ⟨x, hx⟩ : ∃ x, x = (srt l).getD K 0 := ⟨_, rfl⟩
    rw [← hx] at HK hF
    have HDU := Lib.hid (fun W (h : FlatAt W (.slice (some ⟨b, o, none⟩) l.length c) l.length (ints l)) => implDu_any b o c l x x W h hn)
    rw [duAll_yes ⟨hok.1, Int.le_refl _⟩] at HDU
    have hDl := duF_length (Int.le_refl x) l
    have hDne : duF l x x ≠ [] := fun e => by rw [e] at hDl; simp at hDl; omega
    rw [hF]
    have HDN := Lib.hid hDne
    clear hok hF hx hDne hDl
    generalize duF l x x = D at *
    go_enter Try.func44, Try.ntmps44
    go_wp2_with fail
    refine HK.out.mono ?_
    rintro e w1 ⟨rfl, hb1⟩
    have HV1 := Lib.hid (HV.out.below hb1)
    have HB1 := Lib.hid hb1
    clear hb1 HV HK
    go_wp2_with fail
    refine (HDU.out _ HV1.out).mono ?_
    intro e w2 hq
    obtain ⟨g, cc, rfl, hcap, hg, hrow, hb2⟩ := hq.own HDN.out
    simp only at hcap hrow
    have HRES : Hid (RetIE (D, true) w (.returned (.tuple #[.slice (some ⟨g, 0, none⟩) D.length cc, .bool true])) w2) := Lib.hid (.inl ⟨g, cc, rfl, hcap, Nat.le_trans HB1.out.size hg, hrow, HB1.out.trans (hb2.mono HB1.out.size)⟩)
    clear hrow hb2 hg hcap HDU HV1 HB1 hq HDN
    go_wp2_with fail
    go_ret2
    exact HRES.out
  · rw [kthAll_no hok] at HK
    rw [nthAll_no hok]
    clear hok
    go_enter Try.func44, Try.ntmps44
    go_wp2_with fail
    refine HK.out.mono ?_
    rintro e w1 ⟨rfl, hb1⟩
    have HRES := Lib.hid (RetIE.nil0 w w1 hb1)
    clear hb1 HV HK
    go_wp2_with fail
    go_ret2
    exact HRES.out

end Go.Proofs.Ytagibgphegoagaa
end
