/- The laws' vInts at two lists, by its contract. -/
import Derived.Test.YtjlldjekjnlcaaaPerm
import Derived.Test.YtjlldjekjnlcaaaInts
import Derived.BigQuiet
import Derived.Deep.QuietTactic
import Derived.Deep.CutRange
import Derived.Deep.LoopGhost
import Derived.BigGuardPart
namespace Go.Proofs.Ytjlldjekjnlcaaa
open Go.RowKit P
set_option linter.unusedVariables false

set_option maxRecDepth 100000 in
theorem vInts_eq (v v' : Value) (l m : List Int) (w : World) (hv : FlatAt w v l.length (ints l)) (hv' : FlatAt w v' m.length (ints m)) (hn : l.length ≤ 1048576) (hlm : l.length = m.length) :
    Calls Try.prog 22 #[v, v'] w fun e w' => e = .returned (.bool (decide (l = m))) ∧ Below w.heap.size w w' := by
  rw [← hlm] at hv'
  obtain ⟨a, c, rfl, _, h⟩ := hv
  obtain ⟨a', c', rfl, _, h'⟩ := hv'
  have H := Lib.hid h
  have H' := Lib.hid h'
  have HLM := Lib.hid hlm
  clear h h' hlm
  go_enter Try.func22, Try.ntmps22
  go_wp2
  go_loopw [5] (fun i wr => ∃ k m1 : Nat, k ≤ l.length ∧ i = .int .i64 k ∧ Hid (l.take k = m.take k) ∧ wr = w.drewN m1) (fun i _ => l.length - (intOf i).toNat)
  case atStart => exact ⟨0, 0, Nat.zero_le _, rfl, Lib.hid rfl, rfl⟩
  case round =>
    obtain ⟨k, m1, hk, rfl, HT, rfl⟩ := hrel
    by_cases hlt : k < l.length
    · have hx := at_getD (l := l) hlt
      have hy := at_getD (l := m) (k := k) (by rw [← HLM.out]; exact hlt)
      obtain ⟨x, he⟩ : ∃ x, x = l.getD k 0 := ⟨_, rfl⟩
      obtain ⟨y, hf⟩ : ∃ x, x = m.getD k 0 := ⟨_, rfl⟩
      rw [← he] at hx
      rw [← hf] at hy
      obtain ⟨b, o, rfl, hbb, hc1⟩ := H.out _ _ (ints_at hx)
      obtain ⟨b', o', rfl, hbb', hc1'⟩ := H'.out _ _ (ints_at hy)
      have HX := Lib.hid hx
      have HY := Lib.hid hy
      clear hx hy he hf
      by_cases hq : x = y
      · subst hq
        have HT2 : Hid (l.take (k + 1) = m.take (k + 1)) := Lib.hid (by rw [List.take_add_one, List.take_add_one, HX.out, HY.out, HT.out])
        go_wp2
        go_quiet (fail)
        go_wp2
        go_roundw
        case rel => exact ⟨k + 1, _, by omega, by go_num, HT2, rfl⟩
        case measure => simp [intOf]; omega
      · have hqd : decide (x = y) = false := decide_eq_false hq
        have hqb : (x == y) = false := by simpa using hq
        have HN : Hid (decide (l = m) = false) := Lib.hid (decide_eq_false fun e => hq (by
          have h1 := HX.out
          rw [e, HY.out] at h1
          exact (Option.some.inj h1).symm))
        go_wp2
        go_quiet (fail)
        go_wp2
        go_ret
        exact ⟨by rw [HN.out]; rfl, ⟨rfl, rfl, rfl, Nat.le_refl _, fun _ _ => rfl⟩⟩
    · obtain rfl : k = l.length := by omega
      have HN : Hid (decide (l = m) = true) := Lib.hid (decide_eq_true (by
        have h1 := HT.out
        rw [List.take_length, HLM.out, List.take_length] at h1
        exact h1))
      go_wp2
      go_ret
      exact ⟨by rw [HN.out]; rfl, ⟨rfl, rfl, rfl, Nat.le_refl _, fun _ _ => rfl⟩⟩

end Go.Proofs.Ytjlldjekjnlcaaa
