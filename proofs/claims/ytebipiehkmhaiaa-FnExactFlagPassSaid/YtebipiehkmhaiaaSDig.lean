/- The model's digits, by their contracts. -/
import Derived.Test.YtebipiehkmhaiaaRadP
import Derived.Test.YtebipiehkmhaiaaIn
import Derived.Laws.BitsLemmas
namespace Go.Proofs.Ytebipiehkmhaiaa
open Go.RowKit Rx
set_option linter.unusedVariables false

set_option maxRecDepth 100000 in
set_option maxHeartbeats 2000000 in
theorem l8Digit_any (key : Int) (n b p : Nat) (W : World) (hk : key + 100000 = (n : Int)) (hb : 2 ≤ b) (hb2 : b ≤ 256) (hp : p ≤ 17) (hn : n ≤ 200000) :
    Calls Try.prog 108 #[.int .i64 key, .int .i64 (b : Int), .int .i64 (p : Int)] W fun e w' => e = .returned (.int .i64 (dg b p n : Nat)) ∧ w' = W := by
  have hbz : ¬ (b : Int) = 0 := by omega
  have hbn : ¬ b = 0 := by omega
  have ek : IntKind.i64.wrap (key + 100000) = (n : Int) := by rw [IntKind.wrap_i64]; omega
  clear hk
  go_enter Try.func108, Try.ntmps108
  go_wp2_with fail
  go_loopw [7, 8] (fun kv iv wr => ∃ (j k : Nat), iv = .int .i64 (j : Int) ∧ kv = .int .i64 (k : Int) ∧ k = n / b ^ j ∧ j ≤ p ∧ wr = W) (fun _ iv _ => p - (intOf iv).toNat)
  case atStart => exact ⟨0, n, rfl, by first | rfl | rw [ek], by rw [Nat.pow_zero, Nat.div_one], Nat.zero_le _, rfl⟩
  case round =>
    obtain ⟨j, k, rfl, rfl, hk, hj, rfl⟩ := hrel
    have HK := Lib.hid hk
    have hk2 : k ≤ 200000 := by have := Nat.div_le_self n (b ^ j); omega
    clear hk
    by_cases hlt : j < p
    · have hltz : decide ((j : Int) < (p : Int)) = true := decide_eq_true (by omega)
      obtain ⟨m, hm⟩ : ∃ m, m = k / b := ⟨_, rfl⟩
      have hm2 : m ≤ 200000 := by have := Nat.div_le_self k b; omega
      have hm1 : (k : Int) / (b : Int) = (m : Int) := by rw [hm, Int.natCast_ediv]
      have hm3 : Int.tdiv (k : Int) (b : Int) = (m : Int) := by rw [Int.tdiv_eq_ediv_of_nonneg (by omega)]; exact hm1
      have em : IntKind.i64.wrap (m : Int) = (m : Int) := by rw [IntKind.wrap_i64]; omega
      have HM : Hid (m = n / b ^ (j + 1)) := Lib.hid (by rw [hm, HK.out, div_pow_succ])
      clear hm
      go_wp2_with fail
      go_roundw
      case rel => exact ⟨j + 1, m, by go_num, by first | rfl | rw [hm1] | rw [hm3], HM.out, by omega, by first | rfl | trivial⟩
      case measure => simp [intOf]; omega
    · have hjp : j = p := by omega
      have hltz : decide ((j : Int) < (p : Int)) = false := decide_eq_false (by omega)
      obtain ⟨m, hm⟩ : ∃ m, m = k % b := ⟨_, rfl⟩
      have hm2 : m < 256 := by have := Nat.mod_lt k (show 0 < b by omega); omega
      have hm1 : (k : Int) % (b : Int) = (m : Int) := by rw [hm, Int.natCast_emod]
      have hm3 : Int.tmod (k : Int) (b : Int) = (m : Int) := by rw [Int.tmod_eq_emod_of_nonneg (by omega)]; exact hm1
      have em : IntKind.i64.wrap (m : Int) = (m : Int) := by rw [IntKind.wrap_i64]; omega
      have HM : Hid (dg b p n = m) := Lib.hid (by rw [hm, HK.out, hjp]; rfl)
      clear hm hjp
      go_wp2_with fail
      go_ret
      exact ⟨by rw [HM.out]; first | rfl | (rw [← hm1]; rfl) | (rw [← hm3]; rfl), rfl⟩

theorem l8Place_any (b p : Int) (W : World) :
    Calls Try.prog 107 #[.int .i64 b, .int .i64 p] W fun e w' => e = .returned (.bool (decide (OkBP b p))) ∧ w' = W := by
  have HB := Lib.hid (l1In_any b 2 256)
  have HP := Lib.hid (l1In_any p 0 17)
  by_cases h0 : 2 ≤ b ∧ b ≤ 256
  · rw [decide_eq_true h0] at HB
    have hd : decide (OkBP b p) = decide (0 ≤ p ∧ p ≤ 17) := by rw [decide_eq_decide]; unfold OkBP; omega
    rw [hd]
    clear h0 hd
    generalize decide (0 ≤ p ∧ p ≤ 17) = q at *
    go_enter Try.func107, Try.ntmps107
    go_wp2_with fail
    refine (HB.out _).mono ?_
    rintro e w1 ⟨rfl, rfl⟩
    go_wp2_with fail
    refine (HP.out _).mono ?_
    rintro e w1 ⟨rfl, rfl⟩
    go_wp2_with fail
    go_ret
    exact ⟨rfl, rfl⟩
  · rw [decide_eq_false h0] at HB
    have hd : decide (OkBP b p) = false := decide_eq_false fun h => h0 h.1
    rw [hd]
    clear h0 hd
    go_enter Try.func107, Try.ntmps107
    go_wp2_with fail
    refine (HB.out _).mono ?_
    rintro e w1 ⟨rfl, rfl⟩
    go_wp2_with fail
    go_ret
    exact ⟨rfl, rfl⟩

end Go.Proofs.Ytebipiehkmhaiaa
