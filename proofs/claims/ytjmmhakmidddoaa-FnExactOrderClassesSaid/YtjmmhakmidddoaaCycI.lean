/- The iterator over the cycles of a permutation (cyclesOf), by its contract: it yields them in order, each in a row of its own. -/
import Derived.Test.YtjmmhakmidddoaaStepsC
import Derived.Test.YtjmmhakmidddoaaPerm
import Derived.Test.YtjmmhakmidddoaaBools
import Derived.Test.YtjmmhakmidddoaaRetI
import Derived.RangeFuncNested
import Derived.RangeFuncBound
import Derived.RangeFuncCalls
import Derived.RangeFuncLeaves
import Derived.RangeFuncBox
import Derived.Shelf.Abstract
import Derived.Shelf.RegionOpen
import Derived.WalkKit
import Derived.OwnWalkIn
import Derived.TacticsInMore
import Derived.LoopNIn
import Derived.LoopIn
import Derived.Maps.AppendAt
import Derived.Lib.Hide
import Derived.Stop.RegionWithIn
namespace Go.Proofs.Ytjmmhakmidddoaa
open Go.RowKit Go.Shelf P

attribute [local go_sem] Oper.semAt_some
attribute [local go_sem ↓ high] builtin_append_held

/-- A row handed out: its block, its capacity, its elements. -/
structure CRow where
  g : Nat
  c : Nat
  L : List Nat

def encC (x : CRow) : Array Value := #[.slice (some ⟨x.g, 0, none⟩) x.L.length x.c]
/-- Three blocks are as they were. -/
def Keep3 (B1 bp V : Nat) (W W' : World) : Prop := W'.heap[B1]? = W.heap[B1]? ∧ W'.heap[bp]? = W.heap[bp]? ∧ W'.heap[V]? = W.heap[V]? ∧ W.heap.size ≤ W'.heap.size
/-- What may come next: the cycle from i, in a row of its own behind the marks. -/
def OkC (p : List Int) (V : Nat) (pre : List CRow) (x : CRow) (W : World) : Prop :=
  ∃ i, i < p.length ∧ pre.map CRow.L = cyc p i ∧ x.L = orb p 65 (vis p i) i ∧ ¬ i ∈ vis p i ∧ V < x.g ∧ x.L.length ≤ x.c ∧ CellRow W x.g (ints (nats x.L))

theorem But.then {g : Nat} {a b c : World} (h : But g a b) (k : Below a.heap.size b c) : But g a c :=
  ⟨k.os.trans h.os, k.tape.trans h.tape, k.output.trans h.output, Nat.le_trans h.size k.size, fun i hi hg => (k.block i hi).trans (h.block i hi hg)⟩

/-- The outer loop's word at i. -/
structure CycAt (p : List Int) (V B1 bp : Nat) (J : List CRow → World → Prop) (W : World) (i : Nat) (w : World) : Prop where
  le : i ≤ p.length
  row : RowIs w V 90 (bools (markV 64 (vis p i)))
  b1 : w.heap[B1]? = W.heap[B1]?
  b2 : w.heap[bp]? = W.heap[bp]?
  j : ∃ pre, pre.map CRow.L = cyc p i ∧ J pre w

/-- The inner loop's word, on the way from i. -/
structure CycWay (p : List Int) (V i : Nat) (w0 : World) (acc : List Nat) (k f : Nat) (cv : Value) (w : World) : Prop where
  way : OnWay p (vis p i) i acc k f
  held : Held w0.heap.size w cv (nats acc)
  row : RowIs w V 90 (bools (markV 64 (vis p i ++ acc)))
  but : But V w0 w

def lenOf : Value → Nat
  | .slice _ n _ => n
  | _ => 0
theorem Held.lenOf {b : Nat} {w : World} {v : Value} {L : List Int} (h : Held b w v L) : lenOf v = L.length := by
  obtain ⟨_, g, c, rfl⟩ := h; rfl

set_option maxRecDepth 100000 in
set_option maxHeartbeats 4000000 in
theorem cyc1_in (F : Fence) (n : Nat) (h6 : F.fn 99) (hro : F.round = none) (hn : 1 ≤ n) (l B1 bp o c : Nat) (a : Option Addr) (p : List Int) (hp : OkP p) (J : List CRow → World → Prop) (W : World)
    (hJ : ∀ pre A B, J pre A → But W.heap.size A B → J pre B) (hB1 : B1 < W.heap.size) (hbp : bp < W.heap.size)
    (hY : ∀ pre x W1, OkC p W.heap.size pre x W1 → J pre W1 → YieldAt F (n - 1) Try.prog l (encC x) W1 fun e W' => e = .returned (.bool true) ∧ J (pre ++ [x]) W' ∧ Keep3 B1 bp W.heap.size W1 W')
    (hc1 : W.cell? ⟨B1, 0, none⟩ = some (.slice a p.length c)) (hcp : ∀ (j : Nat) x, p[j]? = some x → a = some ⟨bp, o, none⟩ ∧ W.cell? ⟨bp, o + j, none⟩ = some (.int .i64 x)) (h0 : J [] W) :
    CallsIn F n Try.prog 99 #[.func (.yield l) #[] #[], .pointer (some ⟨B1, 0, none⟩)] W fun e W' => (∃ v, e = .returned v) ∧
      ∃ xs, xs.map CRow.L = cyc p p.length ∧ J xs W' := by
  have hp64 := hp.1
  have HCP := Lib.hid hcp
  have HP := Lib.hid hp
  have HJB := Lib.hid hJ
  have HY := Lib.hid hY
  have hw0 : Below W.heap.size W (W.alloc (.cells (bools (List.replicate 64 false)).toArray 90)) := (Below.refl _ _).alloc (Nat.le_refl _) _
  have hJ1 : J [] (W.alloc (.cells (bools (List.replicate 64 false)).toArray 90)) := hJ _ _ _ h0 (But.alloc _ _ _)
  have hrow0 : RowIs (W.alloc (.cells (bools (List.replicate 64 false)).toArray 90)) W.heap.size 90 (bools (List.replicate 64 false)) := heap_alloc_new _ _
  have hd1 := (hw0.cell (p := ⟨B1, 0, none⟩) hB1).trans hc1
  have HB0 := Lib.hid hw0
  have HJ1 := Lib.hid hJ1
  have HR0 := Lib.hid hrow0
  clear hp hcp hJ hY h0 hw0 hJ1 hrow0
  refine callsIn_of_wp Try.func99 rfl h6 ?_ hro
  simp only [Try.ntmps99, List.size_toArray, List.length_cons, List.length_nil, Nat.reduceAdd, Nat.reduceSub, Array.replicate_succ, Array.replicate_zero, List.push_toArray, List.append_toArray, List.nil_append, List.cons_append]
  gi_wp2
  gi_loopw [4, 5, 6, 9] (fun _ _ _ iv wr => ∃ i : Nat, iv = .int .i64 i ∧ CycAt p W.heap.size B1 bp J W i wr) (fun _ _ _ iv _ => p.length - (intOf iv).toNat)
  case atStart => exact ⟨0, rfl, Nat.zero_le _, by rw [show vis p 0 = [] from rfl, markV_nil]; exact HR0.out, HB0.out.block _ hB1, HB0.out.block _ hbp, [], rfl, HJ1.out⟩
  case round =>
    obtain ⟨i, rfl, hc⟩ := hrel
    have HC := Lib.hid hc
    clear hc HR0 HJ1 HB0 hd1
    by_cases hlt : i < p.length
    · have hi64 : i < 64 := by omega
      have hcell := HC.out.row.cell i
      by_cases hm : i ∈ vis p i
      · have hc1' : wr.cell? ⟨W.heap.size, i, none⟩ = some (.bool true) := hcell.trans (bools_at (by rw [markV_at hi64, decide_eq_true hm]))
        have HN : Hid (CycAt p W.heap.size B1 bp J W (i + 1) wr) := Lib.hid ⟨hlt, by rw [vis_old hm]; exact HC.out.row, HC.out.b1, HC.out.b2, by rw [cyc_old hm]; exact HC.out.j⟩
        clear hcell hm HC
        gi_wp2
        go_roundw
        case rel => exact ⟨i + 1, by go_num, HN.out⟩
        case measure => simp [intOf]; omega
      · have hc1' : wr.cell? ⟨W.heap.size, i, none⟩ = some (.bool false) := hcell.trans (bools_at (by rw [markV_at hi64, decide_eq_false hm]))
        have HM := Lib.hid hm
        have hsz : W.heap.size < wr.heap.size := HC.out.row.lt
        have HV := Lib.hid (vis_all HP.out i HC.out.le)
        have HW0 : Hid (CycWay p W.heap.size i wr [] i 65 (.slice (some ⟨wr.heap.size, 0, none⟩) 0 0) (wr.alloc (.cells #[] 3))) := Lib.hid
          ⟨OnWay.start HV.out.1 HV.out.2.1 hlt, Held.start wr wr.heap.size (Nat.le_refl _), by rw [List.append_nil]; exact (heap_alloc_old _ _ hsz).trans HC.out.row, But.alloc _ _ _⟩
        clear hcell hm HV
        gi_wp2
        generalize wr = w0 at *
        gi_loopw [5, 6] (fun cv ev w => ∃ acc k f, ev = .int .i64 (k : Nat) ∧ CycWay p W.heap.size i w0 acc k f cv w) (fun cv _ _ => 65 - lenOf cv)
        case atStart => exact ⟨[], i, 65, rfl, HW0.out⟩
        case round =>
          obtain ⟨acc, k, f, rfl, hw⟩ := hrel

          have HW := Lib.hid hw
          clear hw HW0
          have hk64 : k < 64 := by have := HW.out.way.next; omega
          have hcell := HW.out.row.cell k
          have hfr := HW.out.row.frozen k
          by_cases hk : k ∈ vis p i ++ acc
          · have hc2 : wr.cell? ⟨W.heap.size, k, none⟩ = some (.bool true) := hcell.trans (bools_at (by rw [markV_at hk64, decide_eq_true hk]))
            have HA := Lib.hid (HW.out.way.done hk)
            obtain ⟨g, cg, rfl, hg, hcg, hrow⟩ := HW.out.held.row
            rw [nats_length] at *
            obtain ⟨pre, hpre, hj⟩ := HC.out.j
            have HPRE := Lib.hid hpre
            have hj2 := HJB.out _ _ _ hj HW.out.but
            obtain ⟨fn, tmps, assign, body, hy, hR⟩ := HY.out pre ⟨g, cg, acc⟩ wr ⟨i, hlt, hpre, HA.out, HM.out, Nat.lt_of_lt_of_le hsz hg, hcg, hrow⟩ hj2
            have HR : Hid (RoundIn F (n - 1) Try.prog l fn tmps assign body wr fun e W' => e = .returned (.bool true) ∧ CycAt p W.heap.size B1 bp J W (i + 1) W') := Lib.hid (hR.mono (by
              rintro e W' ⟨rfl, h1, h2⟩
              refine ⟨rfl, hlt, ?_, ?_, ?_, pre ++ [⟨g, cg, acc⟩], ?_, h1⟩
              · rw [vis_succ, ← HA.out]; exact h2.2.2.1.trans HW.out.row
              · exact h2.1.trans ((HW.out.but.block B1 (Nat.lt_trans hB1 hsz) (by omega)).trans HC.out.b1)
              · exact h2.2.1.trans ((HW.out.but.block bp (Nat.lt_trans hbp hsz) (by omega)).trans HC.out.b2)
              · rw [List.map_append, HPRE.out, cyc_new HM.out, ← HA.out]; rfl))
            clear hcell hfr hk hg hcg hrow hpre hj hj2 hR HW HC
            simp only [encC] at hy
            gi_wp2_with (refine HR.out.mono ?_; rintro e W3 ⟨rfl, ho⟩)
            all_goals
              have HN := Lib.hid ho
              clear ho hy HR
              gi_wp2
              go_roundw
              case rel => exact ⟨i + 1, by go_num, HN.out⟩
              case measure => simp [intOf]; omega
          · have hc2 : wr.cell? ⟨W.heap.size, k, none⟩ = some (.bool false) := hcell.trans (bools_at (by rw [markV_at hk64, decide_eq_false hk]))
            have HGO := Lib.hid (HW.out.way.go HP.out hk)
            have hv := HP.out.val HW.out.way.next
            obtain ⟨e, he⟩ : ∃ e : Nat, p.getD k 0 = e := ⟨(p.getD k 0).toNat, by omega⟩
            have hpk : p[k]? = some (e : Int) := by rw [← he]; exact at_getD HW.out.way.next
            obtain ⟨rfl, hcpk⟩ := HCP.out _ _ hpk
            have hroom := HW.out.way.room
            have hkl := HW.out.way.next
            obtain ⟨w1, hw1⟩ : ∃ w1, w1 = wr.setCell ⟨W.heap.size, k, none⟩ (.bool true) := ⟨_, rfl⟩
            have hrow1 : RowIs w1 W.heap.size 90 (bools (markV 64 (vis p i ++ (acc ++ [k])))) := by
              have h1 := HW.out.row.stored k (.bool true)
              rw [bools_set, markV_set, List.append_assoc] at h1
              rw [hw1]; exact h1
            have hbut1 : But W.heap.size w0 w1 := by rw [hw1]; exact HW.out.but.setCell k _
            have hheld1 : Held w0.heap.size w1 u5 (nats acc) := HW.out.held.same (fun j _ hj => by rw [hw1]; exact Below.heap_setCell _ _ _ _ (by show j ≠ W.heap.size; omega)) (by rw [hw1]; exact ((Below.refl _ wr).setCell (p := ⟨W.heap.size, k, none⟩) (Nat.le_refl _) _).size)
            obtain ⟨v2, w2, hrun, hheld2, hbel2, _⟩ := appendOne2 w0.heap.size _ (nats acc) (k : Int) w1 hheld1 hbut1.size (by rw [nats_length]; omega)
            have hbut2 := hbut1.then hbel2
            have hcl2 : w2.cell? ⟨B1, 0, none⟩ = some (.slice (some ⟨bp, o, none⟩) p.length c) :=
              (World.cell?_of_block (w := w0) (a := ⟨B1, 0, none⟩) (hbut2.block B1 (Nat.lt_trans hB1 hsz) (by omega))).trans ((World.cell?_of_block (w := W) (a := ⟨B1, 0, none⟩) HC.out.b1).trans hc1)
            have hcp2 : w2.cell? ⟨bp, o + k, none⟩ = some (.int .i64 (e : Int)) :=
              (World.cell?_of_block (w := w0) (a := ⟨bp, o + k, none⟩) (hbut2.block bp (Nat.lt_trans hbp hsz) (by omega))).trans ((World.cell?_of_block (w := W) (a := ⟨bp, o + k, none⟩) HC.out.b2).trans hcpk)
            have hlen2 : lenOf v2 = acc.length + 1 := by rw [hheld2.lenOf]; simp [nats]
            have hlen1 := hheld1.lenOf
            rw [nats_length] at hlen1
            have hemod : (p.getD k 0).toNat = e := by rw [he]; simp
            have HN : Hid (CycWay p W.heap.size i w0 (acc ++ [k]) e (f - 1) v2 w2) := Lib.hid ⟨by rw [← hemod]; exact HGO.out, by rw [nats_append]; exact hheld2, hrow1.below hbel2 hsz, hbut2⟩
            have HL2 := Lib.hid hlen2
            have HL1 := Lib.hid hlen1
            have HROOM := Lib.hid hroom
            have hsz1 : w1.heap.size = wr.heap.size := by rw [hw1]; simp
            rw [hsz1, hw1] at hrun
            clear hsz1
            clear hcpk hcell hk HGO hv he hpk hroom hw1 hrow1 hbut1 hheld1 hheld2 hbel2 hbut2 hlen2 hlen1 hemod HW HC
            gi_wp2
            go_roundw
            case rel => exact ⟨_, _, _, rfl, HN.out⟩
            case measure => show 65 - lenOf v2 < 65 - lenOf u5; rw [HL1.out, HL2.out]; have := HROOM.out; omega
    · obtain rfl : i = p.length := by have := HC.out.le; omega
      obtain ⟨pre, hpre, hj⟩ := HC.out.j
      have HRES := Lib.hid (show ∃ xs : List CRow, xs.map CRow.L = cyc p p.length ∧ J xs wr from ⟨pre, hpre, hj⟩)
      clear hpre hj HC
      gi_wp2
      go_end0
      exact ⟨⟨_, rfl⟩, HRES.out⟩

theorem Keep3.trans {B1 bp V : Nat} {A B C : World} (h : Keep3 B1 bp V A B) (k : Keep3 B1 bp V B C) : Keep3 B1 bp V A C :=
  ⟨k.1.trans h.1, k.2.1.trans h.2.1, k.2.2.1.trans h.2.2.1, Nat.le_trans h.2.2.2 k.2.2.2⟩
theorem Keep3.put {B1 bp V l : Nat} (h1 : l ≠ B1) (h2 : l ≠ bp) (h3 : l ≠ V) (W : World) (o : Obj) : Keep3 B1 bp V W (W.putObj l o) :=
  ⟨World.putObj_heap_other (Ne.symm h1), World.putObj_heap_other (Ne.symm h2), World.putObj_heap_other (Ne.symm h3), by simp [World.putObj]⟩

/-- What cyclesOf hands back gives the cycles, each in a row behind what there is. -/
theorem cyc_steps (F : Fence) (n : Nat) (w : World) (h6 : F.fn 99) (hro : F.round = none) (hn : 1 ≤ n) (B1 bp o c : Nat) (a : Option Addr) (hB1 : B1 < w.heap.size) (hbp : bp < w.heap.size) (p : List Int) (hp : OkP p)
    (hc1 : w.cell? ⟨B1, 0, none⟩ = some (.slice a p.length c)) (hcp : ∀ (j : Nat) x, p[j]? = some x → a = some ⟨bp, o, none⟩ ∧ w.cell? ⟨bp, o + j, none⟩ = some (.int .i64 x)) :
    StepsC F n Try.prog 99 #[.pointer (some ⟨B1, 0, none⟩)] encC (Keep3 B1 bp (w.heap.size + 2)) (OkC p (w.heap.size + 2)) (fun xs => xs.map CRow.L = cyc p p.length) w := fun l J W hW hs hJ hY h0 =>
  cyc1_in F n h6 hro hn l B1 bp o c a p hp J W hJ (Nat.lt_of_lt_of_le hB1 hW.size) (Nat.lt_of_lt_of_le hbp hW.size) (by rw [hs]; exact hY) ((hW.cell (p := ⟨B1, 0, none⟩) hB1).trans hc1) (fun j x hx => ⟨(hcp j x hx).1, (hW.cell (p := ⟨bp, o + j, none⟩) hbp).trans (hcp j x hx).2⟩) h0

set_option maxHeartbeats 1000000 in
/-- cyclesOf: the list is boxed; the function value captures the box. -/
theorem cyc_in (F : Fence) (n : Nat) (h5 : F.fn 61) (hro : F.round = none) (a : Option Addr) (len c : Nat) (w : World) :
    CallsIn F n Try.prog 61 #[.slice a len c] w fun e w' => e = .returned (.func (.func 99) #[] #[.pointer (some ⟨w.heap.size, 0, none⟩)]) ∧
      w' = w.alloc (.cells #[.slice a len c] 24) := by
  refine callsIn_of_wp Try.func61 rfl h5 ?_ hro
  simp only [Try.ntmps61, List.size_toArray, List.length_cons, List.length_nil, Nat.reduceAdd, Nat.reduceSub, Array.replicate_succ, Array.replicate_zero, List.push_toArray, List.append_toArray, List.nil_append, List.cons_append]
  gi_wp2
  go_ret
  exact ⟨rfl, rfl⟩

end Go.Proofs.Ytjmmhakmidddoaa
