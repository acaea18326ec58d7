/- The iterator over the places of a separator (separatorIndices), by its contract: it yields just those places, in ascending order. -/
import Derived.Test.YtcbeoihgaccjcaaDoorSteps
import Derived.RangeFuncNested
import Derived.RangeFuncBound
import Derived.RangeFuncCalls
import Derived.RangeFuncLeaves
import Derived.RangeFuncBox
import Derived.Shelf.Abstract
import Derived.Shelf.RegionOpen
import Derived.WalkKit
import Derived.OwnWalkIn
import Derived.TacticsInMore
import Derived.LoopNIn
import Derived.LoopIn
import Derived.Maps.AppendAt
import Derived.Lib.Hide
import Derived.Stop.RegionWithIn
namespace Go.Proofs.YtcbeoihgaccjcaaDoor
open Go.RowKit Go.Shelf

attribute [local go_sem] Oper.semAt_some

/-- The places of the byte b among the first k bytes of s. -/
def idx (s : ByteArray) (b : UInt8) (k : Nat) : List Nat := (List.range k).filter fun i => s.data[i]? == some b

theorem idx_hit {s : ByteArray} {b : UInt8} {k : Nat} (h : k < s.size) (e : s[k] = b) : idx s b (k + 1) = idx s b k ++ [k] := by
  unfold idx
  rw [List.range_succ, List.filter_append]
  have h2 : s.data[k]? = some s[k] := Array.getElem?_eq_getElem h
  simp [h2, e]
theorem idx_miss {s : ByteArray} {b : UInt8} {k : Nat} (h : k < s.size) (e : s[k] ≠ b) : idx s b (k + 1) = idx s b k := by
  unfold idx
  rw [List.range_succ, List.filter_append]
  have h2 : s.data[k]? = some s[k] := Array.getElem?_eq_getElem h
  simp [h2, e]
theorem idx_le (s : ByteArray) (b : UInt8) (k : Nat) : (idx s b k).length ≤ k := by
  unfold idx; exact Nat.le_trans (List.length_filter_le _ _) (by simp)
theorem idx_prefix (s : ByteArray) (b : UInt8) {k m : Nat} (h : k ≤ m) : idx s b k <+: idx s b m := by
  obtain ⟨d, rfl⟩ := Nat.exists_eq_add_of_le h
  unfold idx
  rw [List.range_add, List.filter_append]
  exact List.prefix_append _ _
theorem idx_lt {s : ByteArray} {b : UInt8} {k m : Nat} (hk : k < m) (e : s.data[k]? = some b) : (idx s b k).length < (idx s b m).length := by
  have hp := idx_prefix s b (show k + 1 ≤ m from hk)
  have hl := hp.length_le
  have he : idx s b (k + 1) = idx s b k ++ [k] := by
    unfold idx; rw [List.range_succ, List.filter_append]; simp [e]
  rw [he] at hl
  simp at hl; omega

theorem grownBy_drew (W : World) : W.grownBy W.drew none := ⟨rfl, rfl, rfl, Nat.le_refl _, fun _ _ _ => rfl⟩

/-- How a round may end: it goes on, or it has said 'no more'. -/
def Out (B1 B2 : Nat) (J Jx : List Nat → World → Prop) (pre : List Nat) (W : World) (bb : Bool) (W' : World) : Prop :=
  match bb with
  | true => J pre W' ∧ KeepTwo B1 B2 W W'
  | false => Jx pre W'

set_option maxRecDepth 100000 in
set_option maxHeartbeats 2000000 in
theorem sep1_in (F : Fence) (n : Nat) (h6 : F.fn 50) (hro : F.round = none) (hn : 1 ≤ n) (l B1 B2 : Nat) (s : ByteArray) (hs : s.size ≤ maxLen) (b : UInt8) (J Jx : List Nat → World → Prop)
    (hY : ∀ k W, k < s.size → s.data[k]? = some b → J (idx s b k) W → YieldAt F (n - 1) Tryd.prog l #[.int .i64 ((k : Nat) : Int)] W fun e W' =>
      (e = .returned (.bool true) ∧ J (idx s b k ++ [k]) W' ∧ KeepTwo B1 B2 W W') ∨ (e = .returned (.bool false) ∧ Jx (idx s b k ++ [k]) W'))
    (W : World) (hJ : AbidesFrom W.heap.size J) (hc1 : W.cell? ⟨B1, 0, none⟩ = some (.string s)) (hc2 : W.cell? ⟨B2, 0, none⟩ = some (.int .u8 (b.toNat : Int))) (h0 : J [] W) :
    CallsIn F n Tryd.prog 50 #[.func (.yield l) #[] #[], .pointer (some ⟨B1, 0, none⟩), .pointer (some ⟨B2, 0, none⟩)] W fun e W' => (∃ v, e = .returned v) ∧
      ((∃ ys, ys = idx s b s.size ∧ J ys W') ∨ (∃ pre, pre <+: idx s b s.size ∧ Jx pre W')) := by
  unfold maxLen at hs
  refine callsIn_of_wp Tryd.func50 rfl h6 ?_ hro
  simp only [Tryd.ntmps50, List.size_toArray, List.length_cons, List.length_nil, Nat.reduceAdd, Nat.reduceSub, Array.replicate_succ, Array.replicate_zero, List.push_toArray, List.append_toArray, List.nil_append, List.cons_append]
  gi_wp2
  gi_loopw [4, 7] (fun _ p wr => ∃ k : Nat, p = .int .i64 k ∧ k ≤ s.size ∧ wr.cell? ⟨B1, 0, none⟩ = some (.string s) ∧ wr.cell? ⟨B2, 0, none⟩ = some (.int .u8 (b.toNat : Int)) ∧ J (idx s b k) wr)
    (fun _ p _ => s.size - (intOf p).toNat)
  case atStart => exact ⟨0, rfl, Nat.zero_le _, hc1, hc2, h0⟩
  case round =>
    obtain ⟨k, rfl, hk, hd1, hd2, hJs⟩ := hrel
    by_cases hlt : k < s.size
    · by_cases he : s[k] = b
      · have hq : ((s[k].toNat : Int) == (b.toNat : Int)) = true := by rw [he]; exact beq_self_eq_true _
        have HI := Lib.hid (idx_hit hlt he)
        have hkb : s.data[k]? = some b := by rw [← he]; exact Array.getElem?_eq_getElem hlt
        obtain ⟨fn, tmps, assign, body, hy, hR⟩ := hY k wr.drew hlt hkb (hJ _ _ _ none hJs (grownBy_drew wr) (fun r e => by cases e))
        clear he hkb
        have HR : Hid (RoundIn F (n - 1) Tryd.prog l fn tmps assign body wr.drew fun e W' => ∃ bb : Bool, e = .returned (.bool bb) ∧ Out B1 B2 J Jx (idx s b k ++ [k]) wr.drew bb W') := Lib.hid (hR.mono (by
          rintro e W' (⟨rfl, h1, h2⟩ | ⟨rfl, h1⟩)
          · exact ⟨true, rfl, h1, h2⟩
          · exact ⟨false, rfl, h1⟩))
        clear hR
        gi_wp2
        gi_region_with (refine HR.out.mono ?_; rintro e W3 ⟨bb, rfl, ho⟩)
        all_goals
          cases bb
          · have HX : Hid (Jx (idx s b k ++ [k]) W3) := Lib.hid ho
            clear ho hy HR
            gi_wp2
            refine bodyPost_ret (results_none rfl _ _ _) rfl ?_
            exact ⟨⟨_, rfl⟩, .inr ⟨_, by rw [← HI.out]; exact idx_prefix s b hlt, HX.out⟩⟩
          · have HJ := Lib.hid ho.1
            have hk3 : KeepTwo B1 B2 wr.drew W3 := ho.2
            have hd3 : W3.cell? ⟨B1, 0, none⟩ = some (.string s) := (World.cell?_of_block (w := wr.drew) (a := ⟨B1, 0, none⟩) hk3.1).trans hd1
            have hd4 : W3.cell? ⟨B2, 0, none⟩ = some (.int .u8 (b.toNat : Int)) := (World.cell?_of_block (w := wr.drew) (a := ⟨B2, 0, none⟩) hk3.2).trans hd2
            clear ho hk3 hy HR
            gi_wp2
            go_roundw
            case rel => exact ⟨k + 1, by go_num, by omega, hd3, hd4, by rw [HI.out]; exact HJ.out⟩
            case measure => simp [intOf]; omega
      · have hq : ((s[k].toNat : Int) == (b.toNat : Int)) = false := by
          rw [beq_eq_false_iff_ne]; intro e; exact he (UInt8.toNat_inj.1 (by omega))
        have HI := Lib.hid (idx_miss hlt he)
        clear he
        gi_wp2
        have hJd := Lib.hid (hJ _ _ _ none hJs (grownBy_drew wr) (fun r e => by cases e))
        gi_wp2
        gi_region_with (refine ⟨fun _ h => (by cases h), ?_⟩)
        all_goals
          gi_wp2
          go_roundw
          case rel => exact ⟨k + 1, by go_num, by omega, hd1, hd2, by rw [HI.out]; exact hJd.out⟩
          case measure => simp [intOf]; omega
    · obtain rfl : k = s.size := by omega
      gi_wp2
      go_end0
      exact ⟨⟨_, rfl⟩, .inl ⟨_, rfl, hJs⟩⟩

set_option maxHeartbeats 1000000 in
/-- separatorIndices: both arguments are boxed; the function value captures the boxes. -/
theorem sep_in (F : Fence) (n : Nat) (h5 : F.fn 41) (hro : F.round = none) (s : ByteArray) (b : Int) (w : World) :
    CallsIn F n Tryd.prog 41 #[.string s, .int .u8 b] w fun e w' => e = .returned (.func (.func 50) #[] #[.pointer (some ⟨w.heap.size, 0, none⟩), .pointer (some ⟨w.heap.size + 1, 0, none⟩)]) ∧
      w' = (w.alloc (.cells #[.string s] 9)).alloc (.cells #[.int .u8 b] 5) := by
  refine callsIn_of_wp Tryd.func41 rfl h5 ?_ hro
  simp only [Tryd.ntmps41, List.size_toArray, List.length_cons, List.length_nil, Nat.reduceAdd, Nat.reduceSub, Array.replicate_succ, Array.replicate_zero, List.push_toArray, List.append_toArray, List.nil_append, List.cons_append]
  gi_wp2
  go_ret
  exact ⟨rfl, rfl⟩

/-- What separatorIndices hands back stops and gives just the places. -/
theorem sep_stops (F : Fence) (n : Nat) (h6 : F.fn 50) (hro : F.round = none) (hn : 1 ≤ n) (B1 B2 n₀ : Nat) (hB1 : B1 < n₀) (hB2 : B2 < n₀) (s : ByteArray) (hs : s.size ≤ maxLen) (b : UInt8) (w : World)
    (hn₀ : n₀ ≤ w.heap.size) (hc1 : w.cell? ⟨B1, 0, none⟩ = some (.string s)) (hc2 : w.cell? ⟨B2, 0, none⟩ = some (.int .u8 (b.toNat : Int))) :
    SeqStopsK F n Tryd.prog 50 #[.pointer (some ⟨B1, 0, none⟩), .pointer (some ⟨B2, 0, none⟩)] (fun x : Nat => #[Value.int .i64 (x : Int)]) (Below n₀) (fun ys => ys = idx s b s.size) (fun pre => pre <+: idx s b s.size) s.size w := fun l J Jx W hW hJ _ hY h0 =>
  sep1_in F n h6 hro hn l B1 B2 s hs b J Jx (fun k W hk he hj => (hY (idx s b k) k W hj (Nat.lt_of_lt_of_le (idx_lt hk he) (idx_le s b s.size))).mono fun _ _ h => h.imp (fun h => ⟨h.1, h.2.1, KeepTwo.of_below h.2.2 hB1 hB2⟩) (fun h => h)) W hJ ((hW.cell (p := ⟨B1, 0, none⟩) (Nat.lt_of_lt_of_le hB1 hn₀)).trans hc1) ((hW.cell (p := ⟨B2, 0, none⟩) (Nat.lt_of_lt_of_le hB2 hn₀)).trans hc2) h0

/-- .. and each round may lean on what has come before. -/
theorem sep_steps (F : Fence) (n : Nat) (w : World) (h6 : F.fn 50) (hro : F.round = none) (hn : 1 ≤ n) (B1 B2 : Nat) (hB1 : B1 < w.heap.size) (hB2 : B2 < w.heap.size) (s : ByteArray) (hs : s.size ≤ maxLen) (b : UInt8)
    (hc1 : w.cell? ⟨B1, 0, none⟩ = some (.string s)) (hc2 : w.cell? ⟨B2, 0, none⟩ = some (.int .u8 (b.toNat : Int))) :
    StepsSeq F n Tryd.prog 50 #[.pointer (some ⟨B1, 0, none⟩), .pointer (some ⟨B2, 0, none⟩)] (fun x : Nat => #[Value.int .i64 (x : Int)]) (KeepTwo B1 B2) (fun pre x => pre = idx s b x ∧ x < s.size ∧ s.data[x]? = some b) (fun ys => ys = idx s b s.size) w := fun l J W hW hJ hY h0 =>
  (sep1_in F n h6 hro hn l B1 B2 s hs b J (fun _ _ => False) (fun k W hk he hj => (hY (idx s b k) k W ⟨rfl, hk, he⟩ hj).mono fun _ _ h => .inl h) W hJ
    ((hW.cell (p := ⟨B1, 0, none⟩) hB1).trans hc1) ((hW.cell (p := ⟨B2, 0, none⟩) hB2).trans hc2) h0).mono fun _ _ h => ⟨h.1, h.2.elim (fun h => h) (fun ⟨_, _, h⟩ => h.elim)⟩

end Go.Proofs.YtcbeoihgaccjcaaDoor
