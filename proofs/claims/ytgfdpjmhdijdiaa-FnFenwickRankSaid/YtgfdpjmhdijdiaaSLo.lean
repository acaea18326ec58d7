/- The model's l10Low, by its contract. -/
import Derived.Test.YtgfdpjmhdijdiaaInts
import Derived.Test.YtgfdpjmhdijdiaaFenP
namespace Go.Proofs.Ytgfdpjmhdijdiaa
open Go.RowKit Fw
set_option linter.unusedVariables false

theorem low_end_dec : ∀ s < 8, ∀ n < 128, 1 ≤ n → n % 2 ^ s = 0 → n % (2 * 2 ^ s) ≠ 0 → lo n = 2 ^ s := by decide +kernel

theorem l10Low_any (n : Nat) (h0 : 1 ≤ n) (hn : n ≤ 127) (w : World) :
    Calls Try.prog 119 #[.int .i64 (n : Int)] w fun e w' => e = .returned (.int .i64 ((lo n : Nat) : Int)) ∧ w' = w := by
  go_enter Try.func119, Try.ntmps119
  go_wp2
  go_loopw [3] (fun i wr => ∃ s d : Nat, d = 2 ^ s ∧ n % d = 0 ∧ i = .int .i64 (d : Int) ∧ wr = w) (fun i _ => n - (intOf i).toNat)
  case atStart => exact ⟨0, 1, rfl, Nat.mod_one _, rfl, rfl⟩
  case round =>
    obtain ⟨s, d, hd, hm, rfl, rfl⟩ := hrel
    have hdn : d ≤ n := Nat.le_of_dvd (by omega) (Nat.dvd_of_mod_eq_zero hm)
    have h1 : IntKind.i64.wrap (2 * (d : Int)) = ((2 * d : Nat) : Int) := by rw [IntKind.wrap_i64]; omega
    have hd0 : 1 ≤ d := by rw [hd]; exact Nat.one_le_two_pow
    have hz : ¬ ((2 * d : Nat) : Int) = 0 := by omega
    have ht : ((n : Int).tmod ((2 * d : Nat) : Int)) = ((n % (2 * d) : Nat) : Int) := by rw [Int.ofNat_tmod]
    by_cases c : n % (2 * d) = 0
    · have HN : Hid (2 * d = 2 ^ (s + 1) ∧ n % (2 * d) = 0 ∧ 2 * d ≤ n) := Lib.hid ⟨by rw [hd, Nat.pow_succ]; omega, c, Nat.le_of_dvd (by omega) (Nat.dvd_of_mod_eq_zero c)⟩
      rw [c] at ht
      clear hd hm c
      generalize hq : 2 * d = q at *
      go_wp2
      go_roundw
      case rel => exact ⟨s + 1, q, HN.out.1, HN.out.2.1, rfl, by first | rfl | trivial⟩
      case measure => have := HN.out.2.2; simp [intOf]; omega
    · have hs : s < 8 := by
        apply Classical.byContradiction
        intro hc
        have : 2 ^ 8 ≤ 2 ^ s := Nat.pow_le_pow_right (by omega) (by omega)
        omega
      have HR : Hid (lo n = d) := Lib.hid (by rw [low_end_dec s hs n (by omega) h0 (by rw [← hd]; exact hm) (by rw [← hd]; exact c), hd])
      have hne : ¬ ((n % (2 * d) : Nat) : Int) = 0 := by omega
      clear hd hm c
      generalize n % (2 * d) = r at *
      generalize hq : 2 * d = q at *
      go_wp2
      go_ret
      exact ⟨by rw [HR.out]; rfl, rfl⟩

end Go.Proofs.Ytgfdpjmhdijdiaa
