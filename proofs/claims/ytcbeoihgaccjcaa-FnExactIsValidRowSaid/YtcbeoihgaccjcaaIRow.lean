/- The program's IsValidRow, by its contract. -/
import Derived.Test.YtcbeoihgaccjcaaCfS
import Derived.Test.YtcbeoihgaccjcaaRowOk
namespace Go.Proofs.Ytcbeoihgaccjcaa
open Go.RowKit

def badF (x : ByteArray) : Bool := !(decide (OkF x))

set_option maxRecDepth 100000 in
set_option maxHeartbeats 2000000 in
theorem isInvalidField_any (x : ByteArray) (W : World) (hx : x.size ≤ 1048576) :
    Calls Try.prog 80 #[.string x] W fun e w' => e = .returned (.bool (badF x)) ∧ Below W.heap.size W w' := by
  by_cases h40 : x.size ≤ 40
  · have hz : ¬ (40 : Int) < (x.size : Int) := by omega
    go_enter Try.func80, Try.ntmps80
    go_wp2_with fail
    go_loopw [3, 9] (fun _ i wr => ∃ m : Nat, m ≤ x.size ∧ i = .int .i64 m ∧ (∀ c ∈ x.data.toList.take m, 32 ≤ c.toNat ∧ c.toNat ≤ 126) ∧ Below W.heap.size W wr) (fun _ i _ => x.size - (intOf i).toNat)
    case atStart => exact ⟨0, Nat.zero_le _, rfl, by simp, Below.refl _ _⟩
    case round =>
      obtain ⟨m, hm, rfl, hall, hb⟩ := hrel
      have HB := Lib.hid hb
      have HALL := Lib.hid hall
      clear hb hall
      by_cases hml : m < x.size
      · have hltz : (m : Int) < (x.size : Int) := by omega
        have hsz : x.data.toList.take (m + 1) = x.data.toList.take m ++ [x[m]] := by
          rw [List.take_succ_eq_append_getElem (by simpa using hml)]; rfl
        have HT := Lib.hid hsz
        have hby := x[m].toNat_lt
        clear hsz
        have bad : (¬ (32 ≤ x[m].toNat ∧ x[m].toNat ≤ 126)) → badF x = true := fun hp => by
          unfold badF
          rw [decide_eq_false (fun h : OkF x => hp (h.2 x[m] (by
            have : x[m] ∈ x.data.toList.take (m + 1) := by rw [HT.out]; simp
            exact List.mem_of_mem_take this)))]; rfl
        have BAD := Lib.hid bad
        clear bad
        by_cases h1 : x[m].toNat < 32
        · have HN : Hid (badF x = true) := Lib.hid (BAD.out (by omega))
          have h1z : (x[m].toNat : Int) < 32 := by omega
          go_wp2_with fail
          go_ret
          exact ⟨by rw [HN.out]; rfl, HB.out⟩
        · have h1z : ¬ (x[m].toNat : Int) < 32 := by omega
          by_cases h2 : 126 < x[m].toNat
          · have HN : Hid (badF x = true) := Lib.hid (BAD.out (by omega))
            have h2z : (126 : Int) < (x[m].toNat : Int) := by omega
            go_wp2_with fail
            go_ret
            exact ⟨by rw [HN.out]; rfl, HB.out⟩
          · have h2z : ¬ (126 : Int) < (x[m].toNat : Int) := by omega
            have HP : Hid (32 ≤ x[m].toNat ∧ x[m].toNat ≤ 126) := Lib.hid ⟨by omega, by omega⟩
            go_wp2_with fail
            go_roundw
            case rel =>
              refine ⟨m + 1, by omega, by go_num, ?_, HB.out⟩
              intro q hq
              rw [HT.out] at hq
              rcases List.mem_append.1 hq with h | h
              · exact HALL.out q h
              · rw [List.mem_singleton.1 h]; exact HP.out
            case measure => simp [intOf]; omega
      · have hltz : ¬ (m : Int) < (x.size : Int) := by omega
        obtain rfl : m = x.size := by omega
        have HN : Hid (badF x = false) := Lib.hid (by
          unfold badF
          rw [decide_eq_true (show OkF x from ⟨h40, by
            have := HALL.out
            rwa [List.take_of_length_le (by rw [Array.length_toList]; exact Nat.le_refl _)] at this⟩)]; rfl)
        go_wp2_with fail
        go_ret
        exact ⟨by rw [HN.out]; rfl, HB.out⟩
  · have hz : (40 : Int) < (x.size : Int) := by omega
    have HN : Hid (badF x = true) := Lib.hid (by unfold badF; rw [decide_eq_false (fun h : OkF x => h40 h.1)]; rfl)
    go_enter Try.func80, Try.ntmps80
    go_wp2_with fail
    go_ret
    exact ⟨by rw [HN.out]; rfl, Below.refl _ _⟩

theorem okRow_any (xs : List ByteArray) (h1 : 1 ≤ xs.length) (h2 : xs.length ≤ 6) : decide (OkRow xs) = !xs.any badF := by
  by_cases h : OkRow xs
  · have h2 : xs.any badF = false := List.any_eq_false.2 fun x hx => by unfold badF; rw [decide_eq_true (h.2 x hx)]; simp
    rw [decide_eq_true h, h2]; rfl
  · have h3 : xs.any badF = true := by
      apply Classical.byContradiction
      intro hc
      refine h ⟨⟨h1, h2⟩, fun x hx => ?_⟩
      have := List.any_eq_false.1 (by simpa using hc) x hx
      unfold badF at this
      simpa using this
    rw [decide_eq_false h, h3]; rfl

set_option maxRecDepth 100000 in
theorem implValidRow_any (u : Value) (xs : List ByteArray) (w : World) (hv : StrsAt w u xs) (hn : xs.length ≤ 1048576) (hx : ∀ (j : Nat) x, xs[j]? = some x → x.size ≤ 1048576) :
    Calls Try.prog 37 #[.agg #[u]] w fun e w' => e = .returned (.bool (decide (OkRow xs))) ∧ Below w.heap.size w w' := by
  have eg : ∀ args w, (callFunc 80 args).run Try.prog w = .ok (.enter 80 args) w := enters_of Try.func80 (by kernel_rfl) rfl
  have HC := Lib.hid (fun (W : World) (hv : FlatAt W u xs.length (strs xs)) => containsFS badF 80 #[] eg u xs W hv (by omega) (fun W x hm _ => by
    obtain ⟨j, hj⟩ := List.mem_iff_getElem?.1 hm
    exact isInvalidField_any x W (hx j x hj)))
  have HV := Lib.hid hv
  obtain ⟨a, c, rfl, _, _⟩ := hv
  have hb0 : Below w.heap.size w (w.alloc (.cells #[.slice a xs.length c] 54)) := (Below.refl _ w).alloc (Nat.le_refl _) _
  have HB0 := Lib.hid hb0
  clear eg hb0 hx
  by_cases h1 : xs.length < 1
  · have h1z : (xs.length : Int) < 1 := by omega
    have HN : Hid (decide (OkRow xs) = false) := Lib.hid (decide_eq_false fun h => by have := h.1.1; omega)
    go_enter Try.func37, Try.ntmps37
    go_wp2_with fail
    go_ret
    exact ⟨by rw [HN.out]; rfl, HB0.out⟩
  · have h1z : ¬ (xs.length : Int) < 1 := by omega
    by_cases h2 : 6 < xs.length
    · have h2z : (6 : Int) < (xs.length : Int) := by omega
      have HN : Hid (decide (OkRow xs) = false) := Lib.hid (decide_eq_false fun h => by have := h.1.2; omega)
      go_enter Try.func37, Try.ntmps37
      go_wp2_with fail
      go_ret
      exact ⟨by rw [HN.out]; rfl, HB0.out⟩
    · have h2z : ¬ (6 : Int) < (xs.length : Int) := by omega
      have HN : Hid (decide (OkRow xs) = !xs.any badF) := Lib.hid (okRow_any xs (by omega) (by omega))
      go_enter Try.func37, Try.ntmps37
      go_wp2_with fail
      refine (HC.out _ (HV.out.below HB0.out).flat).mono ?_
      rintro e w1 ⟨rfl, hb⟩
      have HB := Lib.hid (HB0.out.trans (hb.mono HB0.out.size))
      clear hb
      go_wp2_with fail
      go_ret
      exact ⟨by rw [HN.out]; rfl, HB.out⟩

end Go.Proofs.Ytcbeoihgaccjcaa
