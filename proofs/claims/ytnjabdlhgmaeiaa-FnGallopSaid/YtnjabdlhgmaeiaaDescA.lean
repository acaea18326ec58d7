/- l4Descent, by its contract. -/
import Derived.Test.YtnjabdlhgmaeiaaInts
import Derived.Test.YtnjabdlhgmaeiaaElem2
import Derived.BigQuiet
import Derived.Deep.QuietTactic
import Derived.Laws.BitsLemmas
namespace Go.Proofs.Ytnjabdlhgmaeiaa
open Go.RowKit P El
set_option linter.unusedVariables false

set_option maxRecDepth 100000 in
set_option maxHeartbeats 4000000 in
theorem l4Descent_any (v : Value) (l : List Int) (w : World) (hv : FlatAt w v l.length (ints l)) (hn : l.length ≤ 1048576) :
    Calls Try.prog 105 #[v] w fun e w' => e = .returned (.int .i64 (descF l)) ∧ Below w.heap.size w w' := by
  obtain ⟨a, c, rfl, _, h⟩ := hv
  have H := Lib.hid h
  clear h
  have HS : Hid (desc l (l.length - 1 - 0) 0 = descF l) := Lib.hid rfl
  go_enter Try.func105, Try.ntmps105
  go_wp2_with fail
  go_loopw [3] (fun iv wr => ∃ (k m : Nat), k ≤ l.length ∧ iv = .int .i64 k ∧ desc l (l.length - 1 - k) k = descF l ∧ wr = w.drewN m) (fun iv _ => l.length - (intOf iv).toNat)
  case atStart => exact ⟨0, 0, Nat.zero_le _, rfl, HS.out, rfl⟩
  case round =>
    obtain ⟨k, m, hk, rfl, hr, rfl⟩ := hrel
    have HR := Lib.hid hr
    clear hr HS
    have hwk : IntKind.i64.wrap ((k : Int) + 1) = ((k + 1 : Nat) : Int) := by rw [IntKind.wrap_i64]; omega
    by_cases hlt : k + 1 < l.length
    · obtain ⟨p, hp⟩ : ∃ p, p = l.getD k 0 := ⟨_, rfl⟩
      obtain ⟨q, hq⟩ : ∃ q, q = l.getD (k + 1) 0 := ⟨_, rfl⟩
      have h1 := at_getD (l := l) (k := k) (by omega)
      have h2 := at_getD (l := l) (k := k + 1) hlt
      rw [← hp] at h1
      rw [← hq] at h2
      obtain ⟨b, o, rfl, _, hc1⟩ := H.out _ _ (ints_at h1)
      obtain ⟨b', o', e', _, hc2⟩ := H.out _ _ (ints_at h2)
      simp at e'
      obtain ⟨rfl, rfl⟩ := e'
      have HP := Lib.hid hp
      have HQ := Lib.hid hq
      have hkz : (k : Int) < l.length := by omega
      have hk1z : ((k + 1 : Nat) : Int) < l.length := by omega
      have HN : Hid (l.length - 1 - k = (l.length - 1 - (k + 1)) + 1) := Lib.hid (by omega)
      clear h1 h2 hp hq
      by_cases hd : q < p
      · have hgt : decide (q < p) = true := decide_eq_true hd
        have HE : Hid (descF l = (k : Int)) := Lib.hid (by rw [← HR.out, HN.out, desc_yes (by rw [← HP.out, ← HQ.out]; exact hd)])
        go_wp2_with fail
        go_quiet (fail)
        go_wp2_with fail
        go_ret
        exact ⟨by rw [HE.out]; rfl, ⟨rfl, rfl, rfl, Nat.le_refl _, fun _ _ => rfl⟩⟩
      · have hgt : decide (q < p) = false := decide_eq_false hd
        have HE : Hid (desc l (l.length - 1 - (k + 1)) (k + 1) = descF l) := Lib.hid (by rw [← HR.out, HN.out, desc_no (by rw [← HP.out, ← HQ.out]; exact hd)])
        go_wp2_with fail
        go_quiet (fail)
        go_wp2_with fail
        go_roundw
        case rel => exact ⟨k + 1, m + nq, by omega, by go_num, HE.out, by trivial⟩
        case measure => simp [intOf]; omega
    · have hlz : ¬ ((k + 1 : Nat) : Int) < l.length := by omega
      have HE : Hid (descF l = -1) := Lib.hid (by rw [← HR.out, show l.length - 1 - k = 0 by omega]; rfl)
      go_wp2_with fail
      go_ret
      exact ⟨by rw [HE.out]; rfl, ⟨rfl, rfl, rfl, Nat.le_refl _, fun _ _ => rfl⟩⟩

end Go.Proofs.Ytnjabdlhgmaeiaa
