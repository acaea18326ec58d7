/- The program's RunMerges, by its contract. -/
import Derived.Test.YtnjabdlhgmaeiaaIMwh
import Derived.Test.YtnjabdlhgmaeiaaCfI
import Derived.Test.YtnjabdlhgmaeiaaRet12
namespace Go.Proofs.Ytnjabdlhgmaeiaa
open Go.RowKit P Sk
set_option linter.unusedVariables false

/-- A list that may be nil, a number and a bool. -/
def RetN1 (r : List Int × Int × Bool) (w : World) (e : Ending) (w' : World) : Prop :=
  ∃ v, e = .returned (.tuple #[v, .int .i64 r.2.1, .bool r.2.2]) ∧ OwnN w.heap.size w' v r.1 ∧ Below w.heap.size w w'

def outC (x : Int) : Bool := !(decide (1 ≤ x ∧ x ≤ 100000))

theorem isInvalidC_any (x : Int) (W : World) :
    Calls Try.prog 86 #[.int .i64 x] W fun e w' => e = .returned (.bool (outC x)) ∧ w' = W := by
  by_cases h1 : x < 1
  · have hd : outC x = true := by unfold outC; rw [decide_eq_false (by omega)]; rfl
    go_enter Try.func86, Try.ntmps86
    go_wp2
    go_ret
    exact ⟨by first | rfl | (rw [hd]; rfl), rfl⟩
  · by_cases h2 : 100000 < x
    · have hd : outC x = true := by unfold outC; rw [decide_eq_false (by omega)]; rfl
      go_enter Try.func86, Try.ntmps86
      go_wp2
      go_ret
      exact ⟨by first | rfl | (rw [hd]; rfl), rfl⟩
    · have hd : outC x = false := by unfold outC; rw [decide_eq_true (by omega)]; rfl
      go_enter Try.func86, Try.ntmps86
      go_wp2
      go_ret
      exact ⟨by first | rfl | (rw [hd]; rfl), rfl⟩

theorem outC_any {l : List Int} (h1 : l.length ≤ 40) : OkC l ↔ l.any outC = false := by
  constructor
  · intro h
    exact List.any_eq_false.2 fun x hx => by unfold outC; simp [h.2 x hx]
  · intro h
    refine ⟨h1, fun x hx => ?_⟩
    have := List.any_eq_false.1 h x hx
    unfold outC at this
    simpa using this

theorem OwnN.ofRow0 (base : Nat) (w : World) (hb : base ≤ w.heap.size) : OwnN base (w.alloc (.cells #[] 3)) (.slice (some ⟨w.heap.size, 0, none⟩) 0 0) [] :=
  ⟨rfl, .inr ⟨w.heap.size, 0, #[], rfl, hb, heap_alloc_new w _, by simp, by unfold maxLen; omega, by simp, by simp [ints]⟩⟩

/-- The loop's word. -/
def RmW (base s : Nat) (l : List Int) (w1 : World) (k : Nat) (wr : World) : Prop :=
  ∃ vc vm S O M TB, StkW base s vc vm S O M TB w1 wr ∧ push (l.drop k) (S, O, M) = push l ([], [], 0) ∧ S.length + O.length = k ∧ M ≤ k ∧ TB ≤ 100000 * (k : Int)

theorem RmW.step {base s : Nat} {l : List Int} {w1 wr : World} {k : Nat} {vc vm : Value} {S O : List Int} {M : Nat} {TB x : Int} (hx : l[k]? = some x) (hx1 : x ≤ 100000) (hp : push (l.drop k) (S, O, M) = push l ([], [], 0)) (hl : S.length + O.length = k) (hM : M ≤ k) (hT : TB ≤ 100000 * (k : Int))
    (h : StkW base s vc vm (coll false (S ++ [x]) O).1 (coll false (S ++ [x]) O).2 (max M (S.length + 1)) (TB + x) w1 wr) : RmW base s l w1 (k + 1) wr := by
  refine ⟨vc, vm, _, _, _, _, h, ?_, ?_, by omega, by omega⟩
  · obtain ⟨hk, rfl⟩ := List.getElem?_eq_some_iff.1 hx
    rw [List.drop_eq_getElem_cons hk, push_cons] at hp
    exact hp
  · have := (coll_len false _ (S ++ [x]) O (Nat.le_refl _)).1
    rw [List.length_append, List.length_singleton] at this
    omega

set_option maxRecDepth 100000 in
set_option maxHeartbeats 8000000 in
theorem implRm_any (b o c : Nat) (l : List Int) (w : World) (hv : FlatAt w (.slice (some ⟨b, o, none⟩) l.length c) l.length (ints l)) (hn : l.length ≤ 1048576) :
    Calls Try.prog 35 #[.slice (some ⟨b, o, none⟩) l.length c] w (RetN1 (rmAll l) w) := by
  have HCELL : Hid (∀ j, j < l.length → b < w.heap.size ∧ w.cell? ⟨b, o + j, none⟩ = some (.int .i64 (l.getD j 0))) := Lib.hid (fun j hj => by
    obtain ⟨a0, c0, e0, _, h⟩ := hv
    simp at e0
    obtain ⟨rfl, rfl⟩ := e0
    obtain ⟨b', o', e', h1, h2⟩ := h _ _ (ints_at (at_getD hj))
    simp at e'
    obtain ⟨rfl, rfl⟩ := e'
    exact ⟨h1, h2⟩)
  have eg : ∀ args w, (callFunc 86 args).run Try.prog w = .ok (.enter 86 args) w := enters_of Try.func86 (by kernel_rfl) rfl
  have eg1 : ∀ args w, (callFunc 89 args).run Try.prog w = .ok (.enter 89 args) w := enters_of Try.func89 (by kernel_rfl) rfl
  have eg2 : ∀ args w, (callFunc 90 args).run Try.prog w = .ok (.enter 90 args) w := enters_of Try.func90 (by kernel_rfl) rfl
  have HC := Lib.hid (containsFI outC 86 #[] eg _ l w hv (by omega) (fun W x _ _ => (isInvalidC_any x W).mono fun e w' h => ⟨h.1, h.2 ▸ Below.refl _ _⟩))
  have EG1 := Lib.hid eg1
  have EG2 := Lib.hid eg2
  have HNO : Hid (¬ OkC l → ∀ w1, Below w.heap.size w w1 → RetN1 (rmAll l) w (.returned (.tuple #[.slice (some ⟨w1.heap.size, 0, none⟩) 0 0, .int .i64 0, .bool false])) (w1.alloc (.cells #[] 3))) := Lib.hid (fun h w1 hb => by
    rw [rmAll_no h]
    exact ⟨_, rfl, OwnN.ofRow0 _ _ hb.size, hb.alloc hb.size _⟩)
  clear hv eg eg1 eg2
  by_cases h40 : l.length ≤ 40
  · have hz : (l.length : Int) ≤ 40 := by omega
    have HOK := Lib.hid (outC_any h40)
    cases hany : l.any outC with
    | true =>
      have HNOT : Hid (¬ OkC l) := Lib.hid (fun h => by rw [HOK.out.1 h] at hany; exact absurd hany (by simp))
      rw [hany] at HC
      clear hany HOK
      go_enter Try.func35, Try.ntmps35
      go_wp2_with fail
      refine (HC.out).mono ?_
      rintro e w1 ⟨rfl, hb⟩
      have HB := Lib.hid hb
      clear hb
      go_wp2_with fail
      go_ret3
      exact HNO.out HNOT.out _ HB.out
    | false =>
      have HYES : Hid (OkC l) := Lib.hid (HOK.out.2 hany)
      rw [hany] at HC
      have HF := Lib.hid (rmAll_yes HYES.out)
      clear hany HOK HNO
      go_enter Try.func35, Try.ntmps35
      go_wp2_with fail
      refine (HC.out).mono ?_
      rintro e w1 ⟨rfl, hb⟩
      have HB := Lib.hid hb
      obtain ⟨s, hs⟩ : ∃ s, s = w1.heap.size := ⟨_, rfl⟩
      have H0 : Hid (RmW s s l w1 0 (w1.alloc (.cells #[.slice none 0 0, .slice none 0 0, .int .i64 0] 101))) := Lib.hid
        ⟨.slice none 0 0, .slice none 0 0, [], [], 0, 0, ⟨by rw [hs]; exact CellRow.of_row (t := 101) (heap_alloc_new w1 _), OwnN.nil _ _, OwnN.nil _ _, fun g hg => by simp [Value.ownBlock] at hg, fun g hg => by simp [Value.ownBlock] at hg, Nat.le_refl _, ⟨by simp, by simp [tot]⟩, by simp [tot], by rw [hs]; exact (Below.refl _ _).alloc (Nat.le_refl _) _⟩, rfl, rfl, Nat.le_refl _, by simp⟩
      have HBASE : Hid (s ≤ w1.heap.size) := Lib.hid (by omega)
      have HSB : Hid (w.heap.size ≤ s) := Lib.hid (by rw [hs]; exact hb.size)
      clear hb HC
      go_wp2_with fail
      rw [← hs]
      clear hs
      go_loopw [18] (fun iv wr => ∃ k : Nat, k ≤ l.length ∧ iv = .int .i64 (k : Int) ∧ RmW s s l w1 k wr) (fun iv _ => l.length - (intOf iv).toNat)
      case atStart => exact ⟨0, Nat.zero_le _, rfl, H0.out⟩
      case round =>
        clear H0
        obtain ⟨k, hk, rfl, vc, vm, S, O, M, TB, hst, hpu, hlen, hM, hT⟩ := hrel
        have HST := Lib.hid hst
        have HPU := Lib.hid hpu
        by_cases hlt : k < l.length
        · obtain ⟨x, hx⟩ : ∃ x, l[k]? = some x := ⟨_, List.getElem?_eq_getElem hlt⟩
          have hxd : l.getD k 0 = x := P.getD_at hx
          obtain ⟨hbb, hc0⟩ := HCELL.out k hlt
          have hx12 := HYES.out.2 x (List.mem_of_getElem? hx)
          have hbel : Below w.heap.size w wr := HB.out.trans (hst.b.mono HSB.out)
          have hw1 : wr.cell? ⟨b, o + k, none⟩ = some (.int .i64 x) := by rw [← hxd]; exact (hbel.cell (p := ⟨b, o + k, none⟩) hbb).trans hc0
          have HX := Lib.hid hx
          have HX12 := Lib.hid hx12
          have hkz : (k : Int) < (l.length : Int) := by omega
          have HPUSH := Lib.hid (push_any s s vc vm S O M TB x w1 wr HST.out hx12.1 (by omega) (by omega) (by omega) HBASE.out)
          have HWH := Lib.hid (fun vc vm W (h : StkW s s vc vm (S ++ [x]) O (max M (S.length + 1)) (TB + x) w1 W) => mergeWhile_any false 89 s s EG1.out vc vm (S ++ [x]) O (max M (S.length + 1)) (TB + x) w1 W h (by rw [List.length_append, List.length_singleton]; omega) (.inr (by rw [List.length_append, List.length_singleton]; omega)) HBASE.out
            (fun vc vm S O W h h1 h2 => isUnbalanced_any s s vc vm S O _ _ w1 W h h1 (h2.resolve_left (by simp))))
          have HSTEP : Hid (∀ vc vm W, StkW s s vc vm (coll false (S ++ [x]) O).1 (coll false (S ++ [x]) O).2 (max M (S.length + 1)) (TB + x) w1 W → RmW s s l w1 (k + 1) W) := Lib.hid (fun vc vm W h => RmW.step HX.out HX12.out.2 HPU.out hlen hM hT h)
          clear hst hpu hc0 hx hxd hx12 hbel HST HPU hlen hM hT
          go_wp2_with fail
          refine (HPUSH.out).mono ?_
          rintro e w2 ⟨vc2, vm2, rfl, h2⟩
          have HW2 := Lib.hid (HWH.out vc2 vm2 w2 h2)
          clear h2 HPUSH HWH
          go_wp2_with fail
          refine (HW2.out).mono ?_
          rintro e w3 ⟨vc3, vm3, rfl, h3⟩
          have HN := Lib.hid (HSTEP.out vc3 vm3 w3 h3)
          clear h3 HW2 HSTEP
          go_wp2_with fail
          go_roundw
          case rel => exact ⟨k + 1, by omega, by go_num, HN.out⟩
          case measure => simp [intOf]; omega
        · obtain rfl : k = l.length := by omega
          rw [List.drop_length] at hpu
          have hpu2 : push l ([], [], 0) = (S, O, M) := hpu.symm
          have HWH := Lib.hid (mergeWhile_any true 90 s s EG2.out vc vm S O M TB w1 wr HST.out (by omega) (.inl rfl) HBASE.out
            (fun vc vm S O W h h1 h2 => isDivided_any s s vc vm S O _ _ w1 W h h1))
          have HPF : Hid (planF l = ((coll true S O).2, M)) := Lib.hid (by unfold planF; rw [hpu2])
          clear hst hpu hpu2 HST HPU hlen hM hT
          go_wp2_with fail
          refine (HWH.out).mono ?_
          rintro e w2 ⟨vc2, vm2, rfl, h2⟩
          obtain ⟨c0, c1, c2, _⟩ := h2.c0
          have HRES : Hid (∀ n, RetN1 (rmAll l) w (.returned (.tuple #[vm2, .int .i64 (M : Int), .bool true])) (w2.drewN n)) := Lib.hid (fun n => by
            rw [HF.out, HPF.out]
            obtain ⟨ho1, ho2⟩ := (h2.drewN n).oH
            refine ⟨vm2, rfl, ⟨ho1, ?_⟩, HB.out.trans ((h2.drewN n).b.mono HSB.out)⟩
            rcases ho2 with h | ⟨g, c, cur, h1, h2, h3⟩
            · exact .inl h
            · exact .inr ⟨g, c, cur, h1, Nat.le_trans HSB.out h2, h3⟩)
          clear h2 HWH HPF
          go_wp2_with fail
          go_region
          all_goals (
            go_wp2_with fail
            go_ret3
            first | exact HRES.out 0 | exact HRES.out 1 | exact HRES.out _)
  · have hz : ¬ (l.length : Int) ≤ 40 := by omega
    have hz2 : (40 : Int) < (l.length : Int) := by omega
    have HNOT : Hid (¬ OkC l) := Lib.hid (fun h => h40 h.1)
    clear HC
    go_enter Try.func35, Try.ntmps35
    go_wp2_with fail
    go_ret3
    exact HNO.out HNOT.out _ (Below.refl _ _)

end Go.Proofs.Ytnjabdlhgmaeiaa
