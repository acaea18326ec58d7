/- The iterator over the places of a separator (separatorIndices), by its contract: it yields just those places, in ascending order. -/
import Derived.Test.YtgnmkmnodmlacaaDoorRows
import Derived.RangeFuncNested
import Derived.RangeFuncBound
import Derived.RangeFuncCalls
import Derived.RangeFuncLeaves
import Derived.RangeFuncBox
import Derived.Shelf.Abstract
import Derived.Shelf.RegionOpen
import Derived.WalkKit
import Derived.OwnWalkIn
import Derived.TacticsInMore
import Derived.LoopNIn
import Derived.LoopIn
import Derived.Maps.AppendAt
import Derived.Lib.Hide
import Derived.Stop.RegionWithIn
namespace Go.Proofs.YtgnmkmnodmlacaaDoor
open Go.RowKit Go.Shelf

attribute [local go_sem] Oper.semAt_some

/-- The places of the byte b among the first k bytes of s. -/
def idx (s : ByteArray) (b : UInt8) (k : Nat) : List Nat := (List.range k).filter fun i => s.data[i]? == some b

theorem idx_hit {s : ByteArray} {b : UInt8} {k : Nat} (h : k < s.size) (e : s[k] = b) : idx s b (k + 1) = idx s b k ++ [k] := by
  unfold idx
  rw [List.range_succ, List.filter_append]
  have h2 : s.data[k]? = some s[k] := Array.getElem?_eq_getElem h
  simp [h2, e]
theorem idx_miss {s : ByteArray} {b : UInt8} {k : Nat} (h : k < s.size) (e : s[k] ≠ b) : idx s b (k + 1) = idx s b k := by
  unfold idx
  rw [List.range_succ, List.filter_append]
  have h2 : s.data[k]? = some s[k] := Array.getElem?_eq_getElem h
  simp [h2, e]
theorem idx_le (s : ByteArray) (b : UInt8) (k : Nat) : (idx s b k).length ≤ k := by
  unfold idx; exact Nat.le_trans (List.length_filter_le _ _) (by simp)
theorem idx_prefix (s : ByteArray) (b : UInt8) {k m : Nat} (h : k ≤ m) : idx s b k <+: idx s b m := by
  obtain ⟨d, rfl⟩ := Nat.exists_eq_add_of_le h
  unfold idx
  rw [List.range_add, List.filter_append]
  exact List.prefix_append _ _
theorem idx_lt {s : ByteArray} {b : UInt8} {k m : Nat} (hk : k < m) (e : s.data[k]? = some b) : (idx s b k).length < (idx s b m).length := by
  have hp := idx_prefix s b (show k + 1 ≤ m from hk)
  have hl := hp.length_le
  have he : idx s b (k + 1) = idx s b k ++ [k] := by
    unfold idx; rw [List.range_succ, List.filter_append]; simp [e]
  rw [he] at hl
  simp at hl; omega

theorem grownBy_drew (W : World) : W.grownBy W.drew none := ⟨rfl, rfl, rfl, Nat.le_refl _, fun _ _ _ => rfl⟩

/-- How a round may end: it goes on, or it has said 'no more'. -/
def Out (n₀ : Nat) (J Jx : List Nat → World → Prop) (pre : List Nat) (W : World) (bb : Bool) (W' : World) : Prop :=
  match bb with
  | true => J pre W' ∧ Below n₀ W W'
  | false => Jx pre W'

set_option maxRecDepth 100000 in
set_option maxHeartbeats 2000000 in
theorem sep1_in (F : Fence) (n : Nat) (h6 : F.fn 54) (hro : F.round = none) (hn : 1 ≤ n) (l B1 B2 n₀ : Nat) (hB1 : B1 < n₀) (hB2 : B2 < n₀) (s : ByteArray) (hs : s.size ≤ maxLen) (b : UInt8) (J Jx : List Nat → World → Prop)
    (hY : ∀ pre x W, J pre W → pre.length < s.size → YieldAt F (n - 1) Tryd.prog l #[.int .i64 ((x : Nat) : Int)] W fun e W' =>
      (e = .returned (.bool true) ∧ J (pre ++ [x]) W' ∧ Below n₀ W W') ∨ (e = .returned (.bool false) ∧ Jx (pre ++ [x]) W'))
    (W : World) (hJ : AbidesFrom W.heap.size J) (hc1 : W.cell? ⟨B1, 0, none⟩ = some (.string s)) (hc2 : W.cell? ⟨B2, 0, none⟩ = some (.int .u8 (b.toNat : Int))) (h0 : J [] W) :
    CallsIn F n Tryd.prog 54 #[.func (.yield l) #[] #[], .pointer (some ⟨B1, 0, none⟩), .pointer (some ⟨B2, 0, none⟩)] W fun e W' => (∃ v, e = .returned v) ∧
      ((∃ ys, ys = idx s b s.size ∧ J ys W') ∨ (∃ pre, pre <+: idx s b s.size ∧ Jx pre W')) := by
  unfold maxLen at hs
  refine callsIn_of_wp Tryd.func54 rfl h6 ?_ hro
  simp only [Tryd.ntmps54, List.size_toArray, List.length_cons, List.length_nil, Nat.reduceAdd, Nat.reduceSub, Array.replicate_succ, Array.replicate_zero, List.push_toArray, List.append_toArray, List.nil_append, List.cons_append]
  gi_wp2
  gi_loopw [4, 7] (fun _ p wr => ∃ k : Nat, p = .int .i64 k ∧ k ≤ s.size ∧ wr.cell? ⟨B1, 0, none⟩ = some (.string s) ∧ wr.cell? ⟨B2, 0, none⟩ = some (.int .u8 (b.toNat : Int)) ∧ J (idx s b k) wr)
    (fun _ p _ => s.size - (intOf p).toNat)
  case atStart => exact ⟨0, rfl, Nat.zero_le _, hc1, hc2, h0⟩
  case round =>
    obtain ⟨k, rfl, hk, hd1, hd2, hJs⟩ := hrel
    by_cases hlt : k < s.size
    · by_cases he : s[k] = b
      · have hq : ((s[k].toNat : Int) == (b.toNat : Int)) = true := by rw [he]; exact beq_self_eq_true _
        have HI := Lib.hid (idx_hit hlt he)
        have HL := Lib.hid (idx_lt (show k < s.size from hlt) (show s.data[k]? = some b by rw [← he]; exact Array.getElem?_eq_getElem hlt))
        clear he
        obtain ⟨fn, tmps, assign, body, hy, hR⟩ := hY (idx s b k) k wr.drew (hJ _ _ _ none hJs (grownBy_drew wr) (fun r e => by cases e)) (Nat.lt_of_lt_of_le HL.out (idx_le s b s.size))
        have HR : Hid (RoundIn F (n - 1) Tryd.prog l fn tmps assign body wr.drew fun e W' => ∃ bb : Bool, e = .returned (.bool bb) ∧ Out n₀ J Jx (idx s b k ++ [k]) wr.drew bb W') := Lib.hid (hR.mono (by
          rintro e W' (⟨rfl, h1, h2⟩ | ⟨rfl, h1⟩)
          · exact ⟨true, rfl, h1, h2⟩
          · exact ⟨false, rfl, h1⟩))
        clear hR
        gi_wp2
        gi_region_with (refine HR.out.mono ?_; rintro e W3 ⟨bb, rfl, ho⟩)
        all_goals
          cases bb
          · have HX : Hid (Jx (idx s b k ++ [k]) W3) := Lib.hid ho
            clear ho hy HR
            gi_wp2
            refine bodyPost_ret (results_none rfl _ _ _) rfl ?_
            exact ⟨⟨_, rfl⟩, .inr ⟨_, by rw [← HI.out]; exact idx_prefix s b hlt, HX.out⟩⟩
          · have HJ := Lib.hid ho.1
            have hk3 : Below n₀ wr.drew W3 := ho.2
            have hd3 : W3.cell? ⟨B1, 0, none⟩ = some (.string s) := (hk3.cell (p := ⟨B1, 0, none⟩) hB1).trans hd1
            have hd4 : W3.cell? ⟨B2, 0, none⟩ = some (.int .u8 (b.toNat : Int)) := (hk3.cell (p := ⟨B2, 0, none⟩) hB2).trans hd2
            clear ho hk3 hy HR
            gi_wp2
            go_roundw
            case rel => exact ⟨k + 1, by go_num, by omega, hd3, hd4, by rw [HI.out]; exact HJ.out⟩
            case measure => simp [intOf]; omega
      · have hq : ((s[k].toNat : Int) == (b.toNat : Int)) = false := by
          rw [beq_eq_false_iff_ne]; intro e; exact he (UInt8.toNat_inj.1 (by omega))
        have HI := Lib.hid (idx_miss hlt he)
        clear he
        gi_wp2
        have hJd := Lib.hid (hJ _ _ _ none hJs (grownBy_drew wr) (fun r e => by cases e))
        gi_wp2
        gi_region_with (refine ⟨fun _ h => (by cases h), ?_⟩)
        all_goals
          gi_wp2
          go_roundw
          case rel => exact ⟨k + 1, by go_num, by omega, hd1, hd2, by rw [HI.out]; exact hJd.out⟩
          case measure => simp [intOf]; omega
    · obtain rfl : k = s.size := by omega
      gi_wp2
      go_end0
      exact ⟨⟨_, rfl⟩, .inl ⟨_, rfl, hJs⟩⟩

set_option maxHeartbeats 1000000 in
/-- separatorIndices: both arguments are boxed; the function value captures the boxes. -/
theorem sep_in (F : Fence) (n : Nat) (h5 : F.fn 44) (hro : F.round = none) (s : ByteArray) (b : Int) (w : World) :
    CallsIn F n Tryd.prog 44 #[.string s, .int .u8 b] w fun e w' => e = .returned (.func (.func 54) #[] #[.pointer (some ⟨w.heap.size, 0, none⟩), .pointer (some ⟨w.heap.size + 1, 0, none⟩)]) ∧
      w' = (w.alloc (.cells #[.string s] 9)).alloc (.cells #[.int .u8 b] 5) := by
  refine callsIn_of_wp Tryd.func44 rfl h5 ?_ hro
  simp only [Tryd.ntmps44, List.size_toArray, List.length_cons, List.length_nil, Nat.reduceAdd, Nat.reduceSub, Array.replicate_succ, Array.replicate_zero, List.push_toArray, List.append_toArray, List.nil_append, List.cons_append]
  gi_wp2
  go_ret
  exact ⟨rfl, rfl⟩

/-- What separatorIndices hands back stops and gives just the places. -/
theorem sep_stops (F : Fence) (n : Nat) (h6 : F.fn 54) (hro : F.round = none) (hn : 1 ≤ n) (B1 B2 n₀ : Nat) (hB1 : B1 < n₀) (hB2 : B2 < n₀) (s : ByteArray) (hs : s.size ≤ maxLen) (b : UInt8) (w : World)
    (hn₀ : n₀ ≤ w.heap.size) (hc1 : w.cell? ⟨B1, 0, none⟩ = some (.string s)) (hc2 : w.cell? ⟨B2, 0, none⟩ = some (.int .u8 (b.toNat : Int))) :
    SeqStopsK F n Tryd.prog 54 #[.pointer (some ⟨B1, 0, none⟩), .pointer (some ⟨B2, 0, none⟩)] (fun x : Nat => #[Value.int .i64 (x : Int)]) (Below n₀) (fun ys => ys = idx s b s.size) (fun pre => pre <+: idx s b s.size) s.size w := fun l J Jx W hW hJ _ hY h0 =>
  sep1_in F n h6 hro hn l B1 B2 n₀ hB1 hB2 s hs b J Jx hY W hJ ((hW.cell (p := ⟨B1, 0, none⟩) (Nat.lt_of_lt_of_le hB1 hn₀)).trans hc1) ((hW.cell (p := ⟨B2, 0, none⟩) (Nat.lt_of_lt_of_le hB2 hn₀)).trans hc2) h0

end Go.Proofs.YtgnmkmnodmlacaaDoor
