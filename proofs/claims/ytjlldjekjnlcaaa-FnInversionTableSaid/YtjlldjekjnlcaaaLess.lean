/- lessAfter, by its contract. -/
import Derived.Test.YtjlldjekjnlcaaaIPermV
import Derived.Laws.BitsLemmas
namespace Go.Proofs.Ytjlldjekjnlcaaa
open Go.RowKit P

/-- The count of later elements that are less, so far. -/
def laterTo (l : List Int) (i k : Nat) : Nat := ((l.drop (i + 1)).take k).countP (fun y => decide (y < l.getD i 0))
theorem laterTo_zero (l : List Int) (i : Nat) : laterTo l i 0 = 0 := by simp [laterTo]
theorem laterTo_all (l : List Int) (i : Nat) : laterTo l i (l.length - (i + 1)) = later l i := by
  unfold laterTo later
  rw [List.take_of_length_le (by simp)]
theorem laterTo_step {l : List Int} {i k : Nat} {x : Int} (h : l[i + 1 + k]? = some x) : laterTo l i (k + 1) = laterTo l i k + if x < l.getD i 0 then 1 else 0 := by
  unfold laterTo
  rw [List.take_add_one, List.getElem?_drop, h, List.countP_append]
  simp
theorem laterTo_le (l : List Int) (i k : Nat) : laterTo l i k ≤ k := by
  unfold laterTo
  refine Nat.le_trans List.countP_le_length ?_
  rw [List.length_take]; omega

set_option maxRecDepth 100000 in
set_option maxHeartbeats 4000000 in
theorem lessAfter_any (v : Value) (l : List Int) (i : Nat) (w : World) (hv : FlatAt w v l.length (ints l)) (hn : l.length ≤ 1048576) (hi : i < l.length) :
    Calls Try.prog 52 #[v, .int .i64 (i : Int)] w fun e w' => e = .returned (.int .i64 (later l i : Nat)) ∧ w' = w := by
  obtain ⟨a, c, rfl, hc, h⟩ := hv
  have hpi := at_getD hi
  obtain ⟨b, o, rfl, hbb, hci⟩ := h _ _ (ints_at hpi)
  have H : Hid (∀ (j : Nat) x, l[j]? = some x → w.cell? ⟨b, o + j, none⟩ = some (.int .i64 x)) := Lib.hid (fun j x hj => by
    obtain ⟨b', o', e, _, hh⟩ := h _ _ (ints_at hj)
    simp at e
    obtain ⟨rfl, rfl⟩ := e
    exact hh)
  obtain ⟨q, hq⟩ : ∃ q, q = l.getD i 0 := ⟨_, rfl⟩
  rw [← hq] at hci
  have HQ := Lib.hid hq
  clear h hpi hq
  have hw : IntKind.i64.wrap ((i : Int) + 1) = (i : Int) + 1 := by rw [IntKind.wrap_i64]; omega
  have HZ := Lib.hid (laterTo_all l i)
  have HST := Lib.hid (fun k x (h : l[i + 1 + k]? = some x) => laterTo_step h)
  by_cases hce : c = i + 1
  · have hle : l.length - (i + 1) = 0 := by omega
    have hz0 : later l i = 0 := by rw [← HZ.out, hle, laterTo_zero]
    rw [hz0]
    go_enter Try.func52, Try.ntmps52
    go_wp2_with fail
    go_loopw [5, 7, 13] (fun n _ k wr => n = .int .i64 0 ∧ k = .int .i64 0 ∧ wr = w) (fun _ _ _ _ => 0)
    case atStart => exact ⟨rfl, rfl, rfl⟩
    case round =>
      obtain ⟨rfl, rfl, rfl⟩ := hrel
      go_wp2_with fail
      go_ret
      exact ⟨rfl, rfl⟩
  · go_enter Try.func52, Try.ntmps52
    go_wp2_with fail
    go_loopw [5, 7, 13] (fun n _ kv wr => ∃ k : Nat, k ≤ l.length - (i + 1) ∧ kv = .int .i64 k ∧ n = .int .i64 (laterTo l i k : Nat) ∧ wr = w) (fun _ _ kv _ => l.length - (intOf kv).toNat)
    case atStart => exact ⟨0, Nat.zero_le _, rfl, by rw [laterTo_zero]; rfl, rfl⟩
    case round =>
      obtain ⟨k, hk, rfl, rfl, rfl⟩ := hrel
      by_cases hlt : k < l.length - (i + 1)
      · obtain ⟨x, hx⟩ : ∃ x, l[i + 1 + k]? = some x := ⟨_, List.getElem?_eq_getElem (by omega)⟩
        have hcx := H.out _ _ hx
        rw [show o + (i + 1 + k) = o + (i + 1) + k by omega] at hcx
        have hstep := HST.out k x hx
        rw [← HQ.out] at hstep
        have hle := laterTo_le l i k
        clear hx
        generalize hn1 : laterTo l i (k + 1) = n1 at *
        generalize laterTo l i k = n0 at *
        have HN1 := Lib.hid hn1
        clear hn1
        by_cases hlx : x < q
        · rw [if_pos hlx] at hstep
          go_wp2_with fail
          go_roundw
          case rel => exact ⟨k + 1, by omega, by go_num, by rw [HN1.out]; go_num, by trivial⟩
          case measure => simp [intOf]; omega
        · rw [if_neg hlx, Nat.add_zero] at hstep
          go_wp2_with fail
          go_roundw
          case rel => exact ⟨k + 1, by omega, by go_num, by rw [HN1.out]; go_num, by trivial⟩
          case measure => simp [intOf]; omega
      · obtain rfl : k = l.length - (i + 1) := by omega
        rw [HZ.out]
        go_wp2_with fail
        go_ret
        exact ⟨rfl, rfl⟩

end Go.Proofs.Ytjlldjekjnlcaaa
