/- slices.Values, Collect and Sorted at lists of numbers, by contracts. -/
import Derived.Test.YtagibgphegoagaaSteps
import Derived.Test.YtagibgphegoagaaRetI
import Derived.Test.YtagibgphegoagaaDrawI
import Derived.Test.YtagibgphegoagaaElem2
import Derived.RangeFuncNested
import Derived.RangeFuncBound
import Derived.RangeFuncCalls
import Derived.RangeFuncLeaves
import Derived.RangeFuncBox
import Derived.RangeFuncFrom
import Derived.Shelf.Abstract
import Derived.WalkKit
import Derived.OwnWalkIn
import Derived.TacticsInMore
import Derived.LoopNIn
import Derived.LoopIn
import Derived.Lib.Hide
namespace Go.Proofs.Ytagibgphegoagaa
open Go.RowKit Go.Shelf
set_option linter.unusedVariables false

attribute [local go_sem] Oper.semAt_some
attribute [local go_sem ↓ high] builtin_append_held

set_option maxRecDepth 100000 in
set_option maxHeartbeats 2000000 in
theorem vals_steps (F : Fence) (n : Nat) (hf : F.fn 149) (hro : F.round = none) (hn : 1 ≤ n) (w : World) (B1 bp o c : Nat) (a : Option Addr) (hB1 : B1 < w.heap.size) (hbp : bp < w.heap.size) (l : List Int) (hl : l.length ≤ 1048576)
    (hc1 : w.cell? ⟨B1, 0, none⟩ = some (.slice a l.length c)) (hcp : ∀ (j : Nat) x, l[j]? = some x → a = some ⟨bp, o, none⟩ ∧ w.cell? ⟨bp, o + j, none⟩ = some (.int .i64 x)) :
    StepsSeq F n Try.prog 149 #[.pointer (some ⟨B1, 0, none⟩)] (fun x : Int => #[.int .i64 x]) (KeepTwo B1 bp) (fun pre x => pre = l.take pre.length ∧ l[pre.length]? = some x) (fun xs => xs = l) w := by
  intro ln J W hW hJ hY h0
  have hd1 : W.cell? ⟨B1, 0, none⟩ = some (.slice a l.length c) := (hW.cell (p := ⟨B1, 0, none⟩) hB1).trans hc1
  have HCP : Hid (∀ (j : Nat) x, l[j]? = some x → a = some ⟨bp, o, none⟩ ∧ W.cell? ⟨bp, o + j, none⟩ = some (.int .i64 x)) := Lib.hid (fun j x hj => ⟨(hcp j x hj).1, (hW.cell (p := ⟨bp, o + j, none⟩) hbp).trans (hcp j x hj).2⟩)
  have HY := Lib.hid hY
  clear hcp hY hc1 hW hJ
  refine callsIn_of_wp Try.func149 rfl hf ?_ hro
  simp only [Try.ntmps149, List.size_toArray, List.length_cons, List.length_nil, Nat.reduceAdd, Nat.reduceSub, Array.replicate_succ, Array.replicate_zero, List.push_toArray, List.append_toArray, List.nil_append, List.cons_append]
  gi_wp2
  gi_loopw [4, 7] (fun _ p wr => ∃ k : Nat, p = .int .i64 k ∧ k ≤ l.length ∧ KeepTwo B1 bp W wr ∧ J (l.take k) wr) (fun _ p _ => l.length - (intOf p).toNat)
  case atStart => exact ⟨0, rfl, Nat.zero_le _, ⟨rfl, rfl⟩, h0⟩
  case round =>
    obtain ⟨k, rfl, hk, hkp, hJs⟩ := hrel
    by_cases hlt : k < l.length
    · obtain ⟨x, hx⟩ : ∃ x, l[k]? = some x := ⟨_, List.getElem?_eq_getElem hlt⟩
      obtain ⟨rfl, hcx0⟩ := HCP.out k x hx
      have hcx : wr.cell? ⟨bp, o + k, none⟩ = some (.int .i64 x) := (World.cell?_of_block (w := W) (a := ⟨bp, o + k, none⟩) hkp.2).trans hcx0
      have hlen : (l.take k).length = k := by rw [List.length_take]; omega
      obtain ⟨fn, tmps, assign, body, hy, hR⟩ := HY.out (l.take k) x wr ⟨by rw [hlen], by rw [hlen]; exact hx⟩ hJs
      have HT : Hid (l.take (k + 1) = l.take k ++ [x]) := Lib.hid (by rw [List.take_add_one, hx]; rfl)
      have HKP := Lib.hid hkp
      have hkz : (k : Int) < l.length := by omega
      clear hx hcx0 hlen hkp
      gi_wp2
      refine hR.mono ?_
      rintro e W3 ⟨rfl, hJ3, hk3⟩
      have HN : Hid (KeepTwo B1 bp W W3 ∧ J (l.take (k + 1)) W3) := Lib.hid ⟨HKP.out.trans hk3, by rw [HT.out]; exact hJ3⟩
      clear hJ3 hk3 hy hR
      gi_wp2
      go_roundw
      case rel => exact ⟨k + 1, by go_num, by omega, HN.out.1, HN.out.2⟩
      case measure => simp [intOf]; omega
    · obtain rfl : k = l.length := by omega
      have HN : Hid (∃ xs, xs = l ∧ J xs wr) := Lib.hid ⟨l, rfl, by rw [List.take_length] at hJs; exact hJs⟩
      clear hJs hkp
      gi_wp2
      go_end0
      exact ⟨⟨_, rfl⟩, HN.out⟩

theorem vals_any (a : Option Addr) (len c : Nat) (w : World) :
    Calls Try.prog 105 #[.slice a len c] w fun e w' => e = .returned (.func (.func 149) #[] #[.pointer (some ⟨w.heap.size, 0, none⟩)]) ∧ w' = w.alloc (.cells #[.slice a len c] 34) := by
  go_enter Try.func105, Try.ntmps105
  go_wp2
  go_ret
  exact ⟨rfl, rfl⟩

/-- 'append(l, n)' of one number, told of every block. -/
theorem appendNil (base : Nat) (v : Value) (L : List Int) (x : Int) (w : World) (h : w.ownsRow base 3 1 v L.length (ints L)) (hb : base ≤ w.heap.size) (hn : L.length ≤ 1048576) :
    ∃ v' w', (heldAppend #[34, 34] 34 #[v, .slice (some ⟨w.heap.size, 0, none⟩) 1 1]).run Try.prog (w.alloc (.cells #[.int .i64 x] 3)) = .ok v' w' ∧
      w'.ownsRow base 3 1 v' (L ++ [x]).length (ints (L ++ [x])) ∧ Below base w w' ∧ (∀ k, k < w.heap.size → v.ownBlock ≠ some k → w'.heap[k]? = w.heap[k]?) ∧ ∃ a' c', v' = .slice a' (L ++ [x]).length c' := by
  obtain ⟨i0, hi, hz0, hz1, hz2⟩ := info_parts infoIntA
  obtain ⟨v', w', hrun, hown, hgrow, _⟩ := run_append_own (P := Try.prog) (w := w.alloc (.cells #[.int .i64 x] 3)) base 34 34 3 i0 (.int .i64 0) 1 8 Try.underlying34 hi hz0 hz1 hz2 rfl (by decide)
    _ L.length (ints L) (World.ownsRow.alloc h _) ⟨w.heap.size, 0, none⟩ 1 1 [.int .i64 x] rfl (cell_one_new w _ _) (by simp [Value.oneCell']) (by unfold maxLen; omega) (by omega) (by simp; omega)
  have hown2 : w'.ownsRow base 3 1 v' (L ++ [x]).length (ints (L ++ [x])) := by
    rw [ints_append, List.length_append]
    exact hown
  refine ⟨v', w', hrun, hown2, ((Below.refl base w).alloc hb _).grown hgrow (by simp; omega) (fun j e => (h.lt j e).1), fun k hk hne => (hgrow.block k (by simp; omega) (fun e => hne e.symm)).trans (Below.heap_alloc w _ k hk), ?_⟩
  rcases hown2.2 with ⟨rfl, hz⟩ | ⟨j, cap, cur, rfl, _⟩
  · simp at hz
  · exact ⟨_, _, rfl⟩

/-- What has been gathered. -/
def SeqV (bs B1 bp : Nat) (w : World) (pre : List Int) (W : World) : Prop :=
  (∃ v, Boxed W bs 34 v ∧ W.ownsRow (bs + 1) 3 1 v pre.length (ints pre) ∧ ∃ a c, v = .slice a pre.length c) ∧ Below bs w W

theorem own_cells {base n : Nat} {w : World} {v : Value} {cs : List Value} (h : w.ownsRow base 3 1 v n cs) {k : Nat} (hk : v.ownBlock = some k) : base ≤ k ∧ ∀ o, w.heap[k]? = some o → o.isCells = true := by
  rcases h.2 with ⟨rfl, _⟩ | ⟨j, cap, cur, rfl, hj, hg, rest⟩
  · simp [Value.ownBlock] at hk
  · obtain rfl : j = k := by simpa [Value.ownBlock] using hk
    exact ⟨hj, fun o ho => by rw [hg] at ho; simp at ho; subst ho; rfl⟩
theorem own_same {base n : Nat} {w w' : World} {v : Value} {cs : List Value} (h : w.ownsRow base 3 1 v n cs) (hb : ∀ k, v.ownBlock = some k → w'.heap[k]? = w.heap[k]?) : w'.ownsRow base 3 1 v n cs := by
  refine ⟨h.1, ?_⟩
  rcases h.2 with hn | ⟨j, cap, cur, rfl, hj, hg, rest⟩
  · exact .inl hn
  · exact .inr ⟨j, cap, cur, rfl, hj, (hb j rfl).trans hg, rest⟩

theorem SeqV.own {bs B1 bp B : Nat} {w : World} (hw : bs ≤ w.heap.size) (hB : bs ≤ B) : OwnFrom B (SeqV bs B1 bp w) := by
  rintro pre W W' row ⟨⟨v, hb, ho, hs⟩, hbe⟩ hg hr
  refine ⟨⟨v, hb.kept hg (fun e => ?_), own_same ho (fun k hk => hg.block k (ho.lt k hk).2 (fun e => ?_)), hs⟩, hbe.grown hg (Nat.le_trans hw hbe.size) (fun k e => Nat.le_trans hB (hr k e).1)⟩
  · obtain ⟨_, o, hoo, hc⟩ := hr bs e.symm
    rw [show W.heap[bs]? = _ from hb] at hoo; cases hoo; cases hc
  · obtain ⟨_, o, hoo, hc⟩ := hr k e.symm
    rw [(own_cells ho hk).2 o hoo] at hc; cases hc

theorem seqv_leave {F : Fence} {n : Nat} {l : List Int} {base : Nat} {w w1 : World} {tmps : Array Value} {D : Nat} {v : Value} (hK : w1.heap[D]? = some (.deferred (some []))) (hD : base ≤ D) (hb : Below base w w1)
    (hH : w1.ownsRow base 3 1 v l.length (ints l)) (h4 : tmps.getD 4 undef = v) :
    LeavesInM F n Try.prog Try.f169 tmps (fun e w' => ∃ v', e = .returned v' ∧ w'.ownsRow base 3 1 v' l.length (ints l) ∧ Below base w w') [{ target := .collected D, args := #[] }] .returning w1 := by
  refine ⟨by simp, .inl ⟨D, _, rfl, run_takeDeferred hK, ?_⟩⟩
  refine ⟨_, results_tmp rfl _ _ _, v, by rw [h4], own_same hH (fun k hk => World.putObj_heap_other (fun e => ?_)), hb.trans ⟨rfl, rfl, rfl, by simp [World.putObj], fun k hk => World.putObj_heap_other (by omega)⟩⟩
  subst e
  have := (own_cells hH hk).2 _ hK
  cases this

set_option maxRecDepth 100000 in
set_option maxHeartbeats 4000000 in
theorem appendSeqI_any (w : World) (B1 bp o c : Nat) (a : Option Addr) (l : List Int) (hl : l.length ≤ 1048576) (hB1 : B1 < w.heap.size) (hbp : bp < w.heap.size)
    (hc1 : w.cell? ⟨B1, 0, none⟩ = some (.slice a l.length c)) (hcp : ∀ (j : Nat) x, l[j]? = some x → a = some ⟨bp, o, none⟩ ∧ w.cell? ⟨bp, o + j, none⟩ = some (.int .i64 x)) :
    Calls Try.prog 169 #[.slice none 0 0, .func (.func 149) #[] #[.pointer (some ⟨B1, 0, none⟩)]] w fun e w' => ∃ v', e = .returned v' ∧ w'.ownsRow w.heap.size 3 1 v' l.length (ints l) ∧ Below w.heap.size w w' := by
  refine (callsIn_wide (n := 5)).1 ?_
  refine callsIn_of_wp_marks Try.func169 rfl trivial ?_ rfl
  simp only [Try.ntmps169, List.size_toArray, List.length_cons, List.length_nil, Nat.reduceAdd, Nat.reduceSub, Array.replicate_succ, Array.replicate_zero, List.push_toArray, List.append_toArray, List.nil_append, List.cons_append]
  gi_wp2
  have bN := Boxed.new w 34 (.slice none 0 0)
  have hal : Below w.heap.size w (w.alloc (.cells #[.slice none 0 0] 34)) := (Below.refl _ _).alloc (Nat.le_refl _) _
  have hszL : (w.alloc (.cells #[.slice none 0 0] 34)).heap.size = w.heap.size + 1 := by simp
  have hO : (w.alloc (.cells #[.slice none 0 0] 34)).ownsRow (w.heap.size + 1) 3 1 (.slice none 0 0) ([] : List Int).length (ints []) := ⟨by simp [ints], .inl ⟨rfl, rfl⟩⟩
  generalize (w.alloc (.cells #[.slice none 0 0] 34)) = wL at *
  have hcL : wL.cell? ⟨B1, 0, none⟩ = some (.slice a l.length c) := (hal.cell (p := ⟨B1, 0, none⟩) hB1).trans hc1
  refine range_steps rfl (by decide) (gf := 149) (lb := #[.pointer (some ⟨B1, 0, none⟩)]) rfl trivial (enters_of Try.func149 (by kernel_rfl) rfl)
    (vals_steps Fence.wide 4 trivial rfl (by decide) wL B1 bp o c a (by omega) (by omega) l hl hcL (fun j x hx => ⟨(hcp j x hx).1, (hal.cell (p := ⟨bp, o + j, none⟩) hbp).trans (hcp j x hx).2⟩)) KeepTwo.trans (fun W i o hi => KeepTwo.put (by omega) (by omega) W o) (fun _ => rfl)
    (SeqV w.heap.size B1 bp w) (SeqV.own (Nat.le_refl _) (by omega))
    ⟨⟨_, bN, hO, _, _, rfl⟩, hal⟩
    (fun x : Int => { tmps := #[.slice none 0 0, .func (.func 149) #[] #[.pointer (some ⟨B1, 0, none⟩)], .pointer (some ⟨w.heap.size, 0, none⟩), undef, .slice none 0 0, .int .i64 x, .func (.func 149) #[] #[.pointer (some ⟨B1, 0, none⟩)], .int .i64 x, undef, undef, undef, undef, undef], defers := [] }) ?assign ?body ?done
  case assign =>
    intro i x W K hK
    gi_wp2
    exact hK
  case body =>
    rintro i pre x W ⟨hpe, hpx⟩ ⟨⟨v, hb, ho, av, cv, rfl⟩, hbe⟩
    have hpl : pre.length ≤ 1048576 := by have := (List.getElem?_eq_some_iff.1 hpx).1; omega
    have hlt := hb.lt
    obtain ⟨v2, w2, hrun, hR2, hb2, hk2, a2, c2, rfl⟩ := appendNil (w.heap.size + 1) _ pre x W ho (by omega) hpl
    have hbx2 : Boxed w2 w.heap.size 34 (.slice av pre.length cv) := (hb2.block w.heap.size (by omega)).trans hb
    have hset : ∀ k, k ≠ w.heap.size → (w2.setCell ⟨w.heap.size, 0, none⟩ (.slice a2 (pre ++ [x]).length c2)).heap[k]? = w2.heap[k]? := fun k hk => Below.heap_setCell _ _ _ _ hk
    have hkk : ∀ k, k < w.heap.size → (w2.setCell ⟨w.heap.size, 0, none⟩ (.slice a2 (pre ++ [x]).length c2)).heap[k]? = W.heap[k]? := fun k hk => (hset k (by omega)).trans (hb2.block k (by omega))
    have HPOST : ∀ a', Hid (stepPost wL.heap.size (KeepTwo B1 bp) (SeqV w.heap.size B1 bp w) (pre ++ [x]) W .normal a' (w2.setCell ⟨w.heap.size, 0, none⟩ (.slice a2 (pre ++ [x]).length c2))) := fun a' => Lib.hid (by
      refine ⟨⟨Nat.le_trans hb2.size (by simp), fun k o' _ hk ho' => ?_⟩, ⟨hkk _ hB1, hkk _ hbp⟩, ⟨_, hbx2.set _, own_same hR2 (fun k hk => hset k (fun e => ?_)), _, _, rfl⟩, (hbe.trans (hb2.mono (Nat.le_succ _))).setCell (p := ⟨w.heap.size, 0, none⟩) (Nat.le_refl _) _⟩
      · have h1 : k ≠ w.heap.size := fun e => by subst e; rw [show W.heap[w.heap.size]? = _ from hb] at hk; cases hk; cases ho'
        exact (hset k h1).trans ((hk2 k (Array.getElem?_eq_some_iff.1 hk).1 (fun e => by have := (own_cells ho e).2 o' hk; rw [ho'] at this; cases this)).trans hk)
      · have := (own_cells hR2 hk).1; omega)
    have hcS := hb.cell
    have hca := (hb.alloc (.cells #[.int .i64 x] 3)).cell
    have hcS2 := hbx2.cell
    have hfS2 := hbx2.frozen
    clear hszL hb ho hbe hpl hpe hpx hR2 hb2 hk2 hbx2 hset hkk hcp hc1 hcL hal hO bN
    gi_wp2
    rw [show pre.length + 1 = (pre ++ [x]).length by simp]
    exact (HPOST _).out
  case done =>
    rintro D ys W hD rfl ⟨⟨v, hb, ho, av, cv, rfl⟩, hbe⟩ hK
    have hcS := hb.cell
    have HO : Hid (W.ownsRow w.heap.size 3 1 (.slice av ys.length cv) ys.length (ints ys)) := Lib.hid ⟨ho.1, by
      rcases ho.2 with hn | ⟨j, cap, cur, e, hj, rest⟩
      · exact .inl hn
      · exact .inr ⟨j, cap, cur, e, by omega, rest⟩⟩
    have HK := Lib.hid hK
    have HBE := Lib.hid hbe
    clear hb ho hbe hK
    gi_wp2
    exact seqv_leave HK.out (by omega) HBE.out HO.out rfl

end Go.Proofs.Ytagibgphegoagaa
