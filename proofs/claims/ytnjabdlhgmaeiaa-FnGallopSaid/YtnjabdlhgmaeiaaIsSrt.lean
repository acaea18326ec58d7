/- slices.IsSorted at lists of numbers, by its contract. -/
import Derived.Test.YtnjabdlhgmaeiaaElem2
import Derived.Test.YtnjabdlhgmaeiaaInts
import Derived.BigQuiet
import Derived.Deep.QuietTactic
import Derived.Laws.BitsLemmas
namespace Go.Proofs.Ytnjabdlhgmaeiaa
open Go.RowKit P El
set_option linter.unusedVariables false

theorem cmpLess_any (x y : Int) (W : World) : Calls Try.prog 131 #[.int .i64 x, .int .i64 y] W fun e w' => e = .returned (.bool (decide (x < y))) ∧ w' = W := by
  go_enter Try.func131, Try.ntmps131
  go_wp2
  go_ret
  exact ⟨by first | rfl | simp, rfl⟩

/-- From k on, no element is less than the one ahead of it. -/
def ascFrom (l : List Int) (k : Nat) : Prop := ∀ j, k ≤ j → j + 1 < l.length → ¬ l.getD (j + 1) 0 < l.getD j 0
theorem descF_neg {l : List Int} : descF l = -1 ↔ ascFrom l 0 := by
  rcases descF_spec l with ⟨h, ha⟩ | ⟨a, h, h1, h2, _⟩
  · exact ⟨fun _ j _ hj => by have := asc_at ha (i := j) (j := j + 1) (by omega) hj; omega, fun _ => h⟩
  · exact ⟨fun h' => by omega, fun h' => absurd h2 (h' a (Nat.zero_le _) h1)⟩

set_option maxRecDepth 100000 in
set_option maxHeartbeats 4000000 in
theorem isSorted_any (v : Value) (l : List Int) (w : World) (hv : FlatAt w v l.length (ints l)) (hn : l.length ≤ 1048576) :
    Calls Try.prog 100 #[v] w fun e w' => e = .returned (.bool (decide (descF l = -1))) ∧ Below w.heap.size w w' := by
  obtain ⟨a, c, rfl, _, h⟩ := hv
  have H := Lib.hid h
  clear h
  by_cases h0 : l.length = 0
  · have hl : l = [] := List.eq_nil_of_length_eq_zero h0
    subst hl
    have HR : Hid (decide (descF [] = -1) = true) := Lib.hid (decide_eq_true (descF_neg.2 (fun j _ h => by simp at h)))
    clear h0 H
    go_enter Try.func100, Try.ntmps100
    go_wp2_with fail
    go_loopw [3] (fun iv wr => iv = .int .i64 (-1) ∧ wr = w) (fun _ _ => 0)
    case atStart => exact ⟨by first | rfl | go_num, rfl⟩
    case round =>
      obtain ⟨rfl, rfl⟩ := hrel
      go_wp2_with fail
      go_ret
      exact ⟨by rw [HR.out]; rfl, Below.refl _ _⟩
  · obtain ⟨n, hn1⟩ : ∃ n, n + 1 = l.length := ⟨l.length - 1, by omega⟩
    have hw0 : IntKind.i64.wrap ((l.length : Int) - 1) = (n : Int) := by rw [IntKind.wrap_i64]; omega
    go_enter Try.func100, Try.ntmps100
    go_wp2_with fail
    go_loopw [3] (fun iv wr => ∃ k : Nat, k ≤ n ∧ iv = .int .i64 (k : Int) ∧ ascFrom l k ∧ Below w.heap.size w wr) (fun iv _ => (intOf iv).toNat)
    case atStart => exact ⟨n, Nat.le_refl _, by first | rfl | rw [hw0], fun j h1 h2 => by omega, Below.refl _ _⟩
    case round =>
      obtain ⟨k, hk, rfl, hr, hb⟩ := hrel
      have HR := Lib.hid hr
      have HB := Lib.hid hb
      clear hr hw0 hb
      cases k with
      | zero =>
        have HE : Hid (decide (descF l = -1) = true) := Lib.hid (decide_eq_true (descF_neg.2 HR.out))
        go_wp2_with fail
        go_ret
        exact ⟨by rw [HE.out]; rfl, HB.out⟩
      | succ k =>
        obtain ⟨k1, hk1⟩ : ∃ k1, k1 = k + 1 := ⟨_, rfl⟩
        rw [← hk1] at HR hk ⊢
        have hwk : IntKind.i64.wrap ((k1 : Int) - 1) = (k : Int) := by rw [IntKind.wrap_i64]; omega
        obtain ⟨p, hp⟩ : ∃ p, p = l.getD k 0 := ⟨_, rfl⟩
        obtain ⟨q, hq⟩ : ∃ q, q = l.getD k1 0 := ⟨_, rfl⟩
        have h1 := at_getD (l := l) (k := k) (by omega)
        have h2 := at_getD (l := l) (k := k1) (by omega)
        rw [← hp] at h1
        rw [← hq] at h2
        obtain ⟨b, o, rfl, hbb, hc1⟩ := H.out _ _ (ints_at h1)
        obtain ⟨b', o', e', _, hc2⟩ := H.out _ _ (ints_at h2)
        simp at e'
        obtain ⟨rfl, rfl⟩ := e'
        replace hc1 : wr.cell? ⟨b, o + k, none⟩ = some (.int .i64 p) := (HB.out.cell (p := ⟨b, o + k, none⟩) hbb).trans hc1
        replace hc2 : wr.cell? ⟨b, o + k1, none⟩ = some (.int .i64 q) := (HB.out.cell (p := ⟨b, o + k1, none⟩) hbb).trans hc2
        have HP := Lib.hid hp
        have HQ := Lib.hid hq
        have HK1 := Lib.hid hk1
        have hkz : (k : Int) < l.length := by omega
        have hk1z : (k1 : Int) < l.length := by omega
        have hpos : 0 < k1 := by omega
        have hposz : (0 : Int) < (k1 : Int) := by omega
        clear h1 h2 hp hq hk1
        have HL := Lib.hid (cmpLess_any q p)
        by_cases hd : q < p
        · rw [decide_eq_true hd] at HL
          have HE : Hid (decide (descF l = -1) = false) := Lib.hid (decide_eq_false (fun h => by
            have := descF_neg.1 h k (Nat.zero_le _) (by have := HK1.out; omega)
            rw [← HK1.out, ← HP.out, ← HQ.out] at this
            exact this hd))
          go_wp2_with fail
          go_quiet ((go_at_call 131; exact Calls.quiet_of_same (HL.out _)))
          go_wp2_with fail
          go_ret
          exact ⟨by rw [HE.out]; rfl, HB.out.trans ⟨rfl, rfl, rfl, Nat.le_refl _, fun _ _ => rfl⟩⟩
        · rw [decide_eq_false hd] at HL
          have HE : Hid (ascFrom l k) := Lib.hid (fun j h1 h2 => by
            by_cases e : j = k
            · rw [e, ← HK1.out, ← HP.out, ← HQ.out]; exact hd
            · exact HR.out j (by have := HK1.out; omega) h2)
          go_wp2_with fail
          go_quiet ((go_at_call 131; exact Calls.quiet_of_same (HL.out _)))
          go_wp2_with fail
          go_roundw
          case rel => exact ⟨k, by omega, by first | rfl | rw [hwk], HE.out, HB.out.trans ⟨rfl, rfl, rfl, Nat.le_refl _, fun _ _ => rfl⟩⟩
          case measure => have := HK1.out; simp [intOf]; omega

end Go.Proofs.Ytnjabdlhgmaeiaa
