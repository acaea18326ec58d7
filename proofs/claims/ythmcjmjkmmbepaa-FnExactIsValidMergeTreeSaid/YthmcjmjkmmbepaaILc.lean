/- The program's levelCount, by its contract. -/
import Derived.Test.YthmcjmjkmmbepaaShelf
import Derived.Test.YthmcjmjkmmbepaaInts
import Derived.Lib.BitFns
import Derived.Laws.BitsLemmas
namespace Go.Proofs.Ythmcjmjkmmbepaa
open Go.RowKit
set_option linter.unusedVariables false

theorem bits64_dec : ∀ n < 65, Lib.bitLen (n - 1) ≤ 6 := by decide +kernel

theorem levelCount_any (n : Nat) (hn : n ≤ 64) (w : World) :
    Calls Try.prog 108 #[.int .i64 (n : Int)] w fun e w' => e = .returned (.int .i64 ((1 + Lib.bitLen (n - 1) : Nat) : Int)) ∧ w' = w := by
  have hb := bits64_dec n (by omega)
  obtain ⟨k, hk⟩ : ∃ k, k = n - 1 := ⟨_, rfl⟩
  have HL := Lib.hid (fun W => Try.bits_Len (k : Int) W (by omega) (by omega))
  rw [← hk] at hb ⊢
  rw [Int.toNat_natCast] at HL
  generalize Lib.bitLen k = L at *
  have hw : IntKind.i64.wrap ((n : Int) - 1) = (n : Int) - 1 := by rw [IntKind.wrap_i64]; omega
  by_cases h0 : n = 0
  · subst h0
    obtain rfl : k = 0 := hk
    go_enter Try.func108, Try.ntmps108
    go_wp2_with fail
    refine (HL.out _).mono ?_
    rintro e w1 ⟨rfl, rfl⟩
    go_wp2_with fail
    go_ret
    exact ⟨by first | rfl | (congr 2; omega), rfl⟩
  · obtain ⟨m, rfl⟩ : ∃ m, n = m + 1 := ⟨n - 1, by omega⟩
    obtain rfl : k = m := by omega
    clear hk h0
    have h1 : ((k + 1 : Nat) : Int) - 1 = (k : Int) := by omega
    have h2 : ¬ (k : Int) < 0 := by omega
    go_enter Try.func108, Try.ntmps108
    go_wp2_with fail
    refine (HL.out _).mono ?_
    rintro e w1 ⟨rfl, rfl⟩
    go_wp2_with fail
    go_ret
    exact ⟨by first | rfl | (congr 2; omega), rfl⟩

end Go.Proofs.Ythmcjmjkmmbepaa
