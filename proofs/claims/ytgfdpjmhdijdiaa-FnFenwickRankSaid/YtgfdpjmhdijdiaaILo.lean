/- The program's lowOf and areMultiplicities, by their contracts. -/
import Derived.Test.YtgfdpjmhdijdiaaCfI
import Derived.Test.YtgfdpjmhdijdiaaFenP
namespace Go.Proofs.Ytgfdpjmhdijdiaa
open Go.RowKit Fw
set_option linter.unusedVariables false

theorem lowOf_any (i : Nat) (hi : i < 4611686018427387904) (w : World) :
    Calls Try.prog 110 #[.int .i64 (i : Int)] w fun e w' => e = .returned (.int .i64 ((lo (i + 1) : Nat) : Int)) ∧ w' = w := by
  have h1 : IntKind.i64.wrap ((i : Int) + 1) = ((i + 1 : Nat) : Int) := by rw [IntKind.wrap_i64]; omega
  have h2 : IntKind.i64.wrap (-((i + 1 : Nat) : Int)) = -((i + 1 : Nat) : Int) := by rw [IntKind.wrap_i64]; omega
  have h3 := lo_mask (n := i + 1) (by omega) (by omega)
  have hle := lo_le (i + 1)
  have h4 : IntKind.i64.wrap ((lo (i + 1) : Nat) : Int) = ((lo (i + 1) : Nat) : Int) := by rw [IntKind.wrap_i64]; omega
  have h5 : bits BinOp.and IntKind.i64 ((i + 1 : Nat) : Int) (-((i + 1 : Nat) : Int)) = ((lo (i + 1) : Nat) : Int) := by
    rw [← h4, ← h3]; rfl
  generalize i + 1 = n at *
  generalize lo n = r at *
  go_enter Try.func110, Try.ntmps110
  go_wp2
  go_ret
  exact ⟨rfl, rfl⟩

def outM (x : Int) : Bool := !(decide (0 ≤ x ∧ x ≤ 1000))

theorem isInvM_any (x : Int) (W : World) :
    Calls Try.prog 157 #[.int .i64 x] W fun e w' => e = .returned (.bool (outM x)) ∧ w' = W := by
  by_cases h1 : x < 0
  · have hd : outM x = true := by unfold outM; rw [decide_eq_false (by omega)]; rfl
    go_enter Try.func157, Try.ntmps157
    go_wp2
    go_ret
    exact ⟨by first | rfl | (rw [hd]; rfl), rfl⟩
  · by_cases h2 : 1000 < x
    · have hd : outM x = true := by unfold outM; rw [decide_eq_false (by omega)]; rfl
      go_enter Try.func157, Try.ntmps157
      go_wp2
      go_ret
      exact ⟨by first | rfl | (rw [hd]; rfl), rfl⟩
    · have hd : outM x = false := by unfold outM; rw [decide_eq_true (by omega)]; rfl
      go_enter Try.func157, Try.ntmps157
      go_wp2
      go_ret
      exact ⟨by first | rfl | (rw [hd]; rfl), rfl⟩

theorem okM_any (l : List Int) : decide (OkM l) = (decide ((l.length : Int) ≤ 64) && !l.any outM) := by
  by_cases h : OkM l
  · have h2 : l.any outM = false := List.any_eq_false.2 fun x hx => by unfold outM; simp [h.2 x hx]
    rw [decide_eq_true h, h2, decide_eq_true (show (l.length : Int) ≤ 64 by have := h.1; omega)]; rfl
  · rw [decide_eq_false h]
    by_cases h1 : (l.length : Int) ≤ 64
    · have h2 : l.any outM = true := by
        apply Classical.byContradiction
        intro hc
        refine h ⟨by omega, fun x hx => ?_⟩
        have := List.any_eq_false.1 (by simpa using hc) x hx
        unfold outM at this
        simpa using this
      rw [h2]; simp
    · rw [decide_eq_false h1]; rfl

set_option maxRecDepth 100000 in
theorem areM_any (v : Value) (l : List Int) (w : World) (hv : FlatAt w v l.length (ints l)) (hn : l.length ≤ 1048576) :
    Calls Try.prog 108 #[v] w fun e w' => e = .returned (.bool (decide (OkM l))) ∧ Below w.heap.size w w' := by
  have eg : ∀ args w, (callFunc 157 args).run Try.prog w = .ok (.enter 157 args) w := enters_of Try.func157 (by kernel_rfl) rfl
  have HC := Lib.hid (containsFI outM 157 #[] eg v l w hv (by omega) (fun W x _ _ => (isInvM_any x W).mono fun e w' h => ⟨h.1, h.2 ▸ Below.refl _ _⟩))
  have HE := Lib.hid (okM_any l)
  obtain ⟨a, c, rfl, _, _⟩ := hv
  clear eg
  by_cases h : l.length ≤ 64
  · have hz : (l.length : Int) ≤ 64 := by omega
    have HZ : Hid (decide (OkM l) = !l.any outM) := Lib.hid (by rw [HE.out, decide_eq_true hz]; rfl)
    go_enter Try.func108, Try.ntmps108
    go_wp2_with fail
    refine (HC.out).mono ?_
    rintro e w1 ⟨rfl, hb⟩
    have HB := Lib.hid hb
    clear hb
    go_wp2_with fail
    go_ret
    exact ⟨by rw [HZ.out]; rfl, HB.out⟩
  · have hz : ¬ (l.length : Int) ≤ 64 := by omega
    have HZ : Hid (decide (OkM l) = false) := Lib.hid (by rw [HE.out, decide_eq_false hz]; rfl)
    go_enter Try.func108, Try.ntmps108
    go_wp2_with fail
    go_ret
    exact ⟨by rw [HZ.out]; rfl, Below.refl _ _⟩

end Go.Proofs.Ytgfdpjmhdijdiaa
