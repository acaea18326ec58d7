/- The program's digits, by their contracts. -/
import Derived.Test.YtagibgphegoagaaRadP
import Derived.Test.YtagibgphegoagaaFlat
import Derived.Laws.Bits64
import Derived.Laws.BitsLemmas
namespace Go.Proofs.Ytagibgphegoagaa
open Go.RowKit Rx
set_option linter.unusedVariables false

theorem shifted_any (key : Int) (W : World) (h1 : -100000 ≤ key) (h2 : key ≤ 100000) :
    Calls Try.prog 69 #[.int .i64 key] W fun e w' => e = .returned (.int .u64 (key + 100000)) ∧ w' = W := by
  have e1 : IntKind.i64.wrap (key + 100000) = key + 100000 := by rw [IntKind.wrap_i64]; omega
  have e2 : IntKind.u64.wrap (key + 100000) = key + 100000 := by rw [IntKind.wrap_u64]; omega
  go_enter Try.func69, Try.ntmps69
  go_wp2_with fail
  go_ret
  exact ⟨rfl, rfl⟩

set_option maxRecDepth 100000 in
set_option maxHeartbeats 2000000 in
theorem digit_any (n b p : Nat) (W : World) (hb : 2 ≤ b) (hb2 : b ≤ 256) (hp : p ≤ 17) (hn : n ≤ 200000) :
    Calls Try.prog 70 #[.int .u64 (n : Int), .int .i64 (b : Int), .int .i64 (p : Int)] W fun e w' => e = .returned (.int .i64 (dg b p n : Nat)) ∧ w' = W := by
  have eb : IntKind.u64.wrap (b : Int) = (b : Int) := by rw [IntKind.wrap_u64]; omega
  have hbz : ¬ (b : Int) = 0 := by omega
  have hbn : ¬ b = 0 := by omega
  go_enter Try.func70, Try.ntmps70
  go_wp2_with fail
  go_loopw [0, 8] (fun kv iv wr => ∃ (j k : Nat), iv = .int .i64 (j : Int) ∧ kv = .int .u64 (k : Int) ∧ k = n / b ^ j ∧ j ≤ p ∧ wr = W) (fun _ iv _ => p - (intOf iv).toNat)
  case atStart => exact ⟨0, n, rfl, rfl, by rw [Nat.pow_zero, Nat.div_one], Nat.zero_le _, rfl⟩
  case round =>
    obtain ⟨j, k, rfl, rfl, hk, hj, rfl⟩ := hrel
    have HK := Lib.hid hk
    have hk2 : k ≤ 200000 := by have := Nat.div_le_self n (b ^ j); omega
    clear hk
    by_cases hlt : j < p
    · have hltz : decide ((j : Int) < (p : Int)) = true := decide_eq_true (by omega)
      obtain ⟨m, hm⟩ : ∃ m, m = k / b := ⟨_, rfl⟩
      have hm2 : m ≤ 200000 := by have := Nat.div_le_self k b; omega
      have hm1 : (k : Int) / (b : Int) = (m : Int) := by rw [hm, Int.natCast_ediv]
      have hm3 : Int.tdiv (k : Int) (b : Int) = (m : Int) := by rw [Int.tdiv_eq_ediv_of_nonneg (by omega)]; exact hm1
      have em : IntKind.u64.wrap (m : Int) = (m : Int) := by rw [IntKind.wrap_u64]; omega
      have HM : Hid (m = n / b ^ (j + 1)) := Lib.hid (by rw [hm, HK.out, div_pow_succ])
      clear hm
      go_wp2_with fail
      go_roundw
      case rel => exact ⟨j + 1, m, by go_num, rfl, HM.out, by omega, by first | rfl | trivial⟩
      case measure => simp [intOf]; omega
    · have hjp : j = p := by omega
      have hltz : decide ((j : Int) < (p : Int)) = false := decide_eq_false (by omega)
      obtain ⟨m, hm⟩ : ∃ m, m = k % b := ⟨_, rfl⟩
      have hm2 : m < 256 := by have := Nat.mod_lt k (show 0 < b by omega); omega
      have hm1 : (k : Int) % (b : Int) = (m : Int) := by rw [hm, Int.natCast_emod]
      have hm3 : Int.tmod (k : Int) (b : Int) = (m : Int) := by rw [Int.tmod_eq_emod_of_nonneg (by omega)]; exact hm1
      have em : IntKind.u64.wrap (m : Int) = (m : Int) := by rw [IntKind.wrap_u64]; omega
      have em2 : IntKind.i64.wrap (m : Int) = (m : Int) := by rw [IntKind.wrap_i64]; omega
      have HM : Hid (dg b p n = m) := Lib.hid (by rw [hm, HK.out, hjp]; rfl)
      clear hm hjp
      go_wp2_with fail
      go_ret
      exact ⟨by rw [HM.out]; rfl, rfl⟩

theorem isBase_any (b : Int) (W : World) :
    Calls Try.prog 126 #[.int .i64 b] W fun e w' => e = .returned (.bool (decide (2 ≤ b ∧ b ≤ 256))) ∧ w' = W := by
  by_cases h1 : 2 ≤ b
  · have hd : decide (2 ≤ b ∧ b ≤ 256) = decide (b ≤ 256) := by rw [decide_eq_decide]; omega
    rw [hd]
    go_enter Try.func126, Try.ntmps126
    go_wp2_with fail
    go_ret
    exact ⟨rfl, rfl⟩
  · have hd : decide (2 ≤ b ∧ b ≤ 256) = false := decide_eq_false fun h => h1 h.1
    rw [hd]
    go_enter Try.func126, Try.ntmps126
    go_wp2_with fail
    go_ret
    exact ⟨rfl, rfl⟩

theorem isBP_any (b p : Int) (W : World) :
    Calls Try.prog 68 #[.int .i64 b, .int .i64 p] W fun e w' => e = .returned (.bool (decide (OkBP b p))) ∧ w' = W := by
  have HB := Lib.hid (isBase_any b)
  by_cases h0 : 2 ≤ b ∧ b ≤ 256
  · rw [decide_eq_true h0] at HB
    by_cases h1 : 0 ≤ p
    · have hd : decide (OkBP b p) = decide (p ≤ 17) := by rw [decide_eq_decide]; unfold OkBP; omega
      rw [hd]
      clear h0 hd
      go_enter Try.func68, Try.ntmps68
      go_wp2_with fail
      refine (HB.out _).mono ?_
      rintro e w1 ⟨rfl, rfl⟩
      go_wp2_with fail
      go_ret
      exact ⟨rfl, rfl⟩
    · have hd : decide (OkBP b p) = false := decide_eq_false fun h => h1 h.2.1
      rw [hd]
      clear h0 hd
      go_enter Try.func68, Try.ntmps68
      go_wp2_with fail
      refine (HB.out _).mono ?_
      rintro e w1 ⟨rfl, rfl⟩
      go_wp2_with fail
      go_ret
      exact ⟨rfl, rfl⟩
  · rw [decide_eq_false h0] at HB
    have hd : decide (OkBP b p) = false := decide_eq_false fun h => h0 h.1
    rw [hd]
    clear h0 hd
    go_enter Try.func68, Try.ntmps68
    go_wp2_with fail
    refine (HB.out _).mono ?_
    rintro e w1 ⟨rfl, rfl⟩
    go_wp2_with fail
    go_ret
    exact ⟨rfl, rfl⟩

end Go.Proofs.Ytagibgphegoagaa
