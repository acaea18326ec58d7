/- The depth, the program's and the model's, by contracts. -/
import Derived.Test.YtfcgnfhpfooelaaHpIs
import Derived.Test.YtfcgnfhpfooelaaIn
namespace Go.Proofs.Ytfcgnfhpfooelaa
open Go.RowKit P El Hp
set_option linter.unusedVariables false

theorem depAll_at {n d : Int} (h : 1 ≤ n ∧ n ≤ 64 ∧ OkD d) : ∃ m k : Nat, n = ((m + 1 : Nat) : Int) ∧ d = (k : Int) ∧ m ≤ 63 ∧ 2 ≤ k ∧ k ≤ 8 ∧ depAll n d = (((dep k m : Nat) : Int), true) := by
  obtain ⟨k, rfl, hk0, h2, h8⟩ := h.2.2.nat
  refine ⟨n.toNat - 1, k, by omega, rfl, by omega, h2, h8, ?_⟩
  unfold depAll; rw [if_pos h, hk0]

set_option maxRecDepth 100000 in
set_option maxHeartbeats 4000000 in
theorem implDep_any (n d : Int) (w : World) :
    Calls Try.prog 49 #[.int .i64 n, .int .i64 d] w fun e w' => e = .returned (.tuple #[.int .i64 (depAll n d).1, .bool (depAll n d).2]) ∧ Below w.heap.size w w' := by
  have HA := Lib.hid (fun W => arity_any d W)
  by_cases hn1 : n < 1
  · rw [depAll_no (by omega)]
    have h1 : decide (n < 1) = true := decide_eq_true hn1
    go_enter Try.func49, Try.ntmps49
    go_wp2_with fail
    go_ret2
    exact ⟨rfl, Below.refl _ _⟩
  · have h1 : decide (n < 1) = false := decide_eq_false hn1
    by_cases hn64 : 64 < n
    · rw [depAll_no (by omega)]
      have h2 : decide (64 < n) = true := decide_eq_true hn64
      go_enter Try.func49, Try.ntmps49
      go_wp2_with fail
      go_ret2
      exact ⟨rfl, Below.refl _ _⟩
    · have h2 : decide (64 < n) = false := decide_eq_false hn64
      by_cases hd : OkD d
      · rw [decide_eq_true hd] at HA
        obtain ⟨m, k, rfl, rfl, hm, hk2, hk8, he⟩ := depAll_at (n := n) (d := d) ⟨by omega, by omega, hd⟩
        rw [he]
        have HP := Lib.hid (fun (j : Nat) W (hj : j ≤ 64) => parent_any j k W hj hk2 hk8)
        have hm1 : ((m + 1 : Nat) : Int) - 1 = (m : Int) := by omega
        have hmm : IntKind.i64.wrap (((m + 1 : Nat) : Int) - 1) = (m : Int) := by rw [hm1, IntKind.wrap_i64]; omega
        have hdl := dep_le (d := k) (by omega) m m (Nat.le_refl _)
        obtain ⟨R, hR⟩ : ∃ R, R = dep k m := ⟨_, rfl⟩
        rw [← hR] at hdl ⊢
        have HR : Hid (0 + dep k m = R) := Lib.hid (by rw [hR]; exact Nat.zero_add _)
        clear he hd hR
        go_enter Try.func49, Try.ntmps49
        go_wp2_with fail
        refine (HA.out _).mono ?_
        rintro e w1 ⟨rfl, rfl⟩
        clear HA
        go_wp2_with fail
        go_loopw [6, 7] (fun qv iv wr => ∃ q i : Nat, qv = .int .i64 (q : Int) ∧ iv = .int .i64 (i : Int) ∧ i ≤ 63 ∧ q + dep k i = R ∧ wr = w1) (fun _ iv _ => (intOf iv).toNat)
        case atStart => exact ⟨0, m, rfl, by first | rfl | go_num, hm, HR.out, rfl⟩
        case round =>
          obtain ⟨q, i, rfl, rfl, hi, hr, rfl⟩ := hrel
          have HRR := Lib.hid hr
          have hq : q ≤ 64 := by omega
          clear hr HR
          by_cases h0 : 0 < i
          · have HPI := Lib.hid (HP.out i wr (by omega))
            have hpl := par_lt (d := k) (by omega) h0
            have HE : Hid ((q + 1) + dep k (par k i) = R) := Lib.hid (by rw [← HRR.out, dep_succ (by omega) h0]; omega)
            generalize par k i = p at *
            have h0z : (0 : Int) < (i : Int) := by omega
            clear HRR
            go_wp2_with fail
            refine (HPI.out).mono ?_
            rintro e w1 ⟨rfl, rfl⟩
            go_wp2_with fail
            go_roundw
            case rel => exact ⟨q + 1, p, by go_num, rfl, by omega, HE.out, by first | rfl | trivial⟩
            case measure => simp [intOf]; omega
          · obtain rfl : i = 0 := by omega
            have HE : Hid ((q : Int) = (R : Int)) := Lib.hid (by rw [← HRR.out]; rfl)
            clear h0 HP
            go_wp2_with fail
            go_ret2
            exact ⟨by rw [← HE.out]; rfl, Below.refl _ _⟩
      · rw [decide_eq_false hd] at HA
        rw [depAll_no (fun h => hd h.2.2)]
        clear hd
        go_enter Try.func49, Try.ntmps49
        go_wp2_with fail
        refine (HA.out _).mono ?_
        rintro e w1 ⟨rfl, rfl⟩
        go_wp2_with fail
        go_ret2
        exact ⟨rfl, Below.refl _ _⟩

set_option maxRecDepth 100000 in
set_option maxHeartbeats 4000000 in
theorem specDep_any (n d : Int) (w : World) :
    Calls Try.prog 54 #[.int .i64 n, .int .i64 d] w fun e w' => e = .returned (.tuple #[.int .i64 (depAll n d).1, .bool (depAll n d).2]) ∧ Below w.heap.size w w' := by
  by_cases hn : 1 ≤ n ∧ n ≤ 64
  · have HN := Lib.hid (fun W => l1In_yes n 1 64 W hn.1 hn.2)
    by_cases hd : OkD d
    · have HD := Lib.hid (fun W => l1In_yes d 2 8 W hd.1 hd.2)
      obtain ⟨m, k, rfl, rfl, hm, hk2, hk8, he⟩ := depAll_at (n := n) (d := d) ⟨hn.1, hn.2, hd⟩
      rw [he]
      have hm1 : ((m + 1 : Nat) : Int) - 1 = (m : Int) := by omega
      have hmm : IntKind.i64.wrap (((m + 1 : Nat) : Int) - 1) = (m : Int) := by rw [hm1, IntKind.wrap_i64]; omega
      have hdl := dep_le (d := k) (by omega) m m (Nat.le_refl _)
      obtain ⟨R, hR⟩ : ∃ R, R = dep k m := ⟨_, rfl⟩
      rw [← hR] at hdl ⊢
      have HR : Hid (0 + dep k m = R) := Lib.hid (by rw [hR]; exact Nat.zero_add _)
      clear he hd hn hR
      go_enter Try.func54, Try.ntmps54
      go_wp2_with fail
      refine (HN.out _).mono ?_
      rintro e w1 ⟨rfl, rfl⟩
      go_wp2_with fail
      refine (HD.out _).mono ?_
      rintro e w2 ⟨rfl, rfl⟩
      clear HN HD
      go_wp2_with fail
      go_loopw [6, 7] (fun qv iv wr => ∃ q i : Nat, qv = .int .i64 (q : Int) ∧ iv = .int .i64 (i : Int) ∧ i ≤ 63 ∧ q + dep k i = R ∧ wr = w2) (fun _ iv _ => (intOf iv).toNat)
      case atStart => exact ⟨0, m, rfl, by first | rfl | go_num, hm, HR.out, rfl⟩
      case round =>
        obtain ⟨q, i, rfl, rfl, hi, hr, rfl⟩ := hrel
        have HRR := Lib.hid hr
        have hq : q ≤ 64 := by omega
        clear hr HR
        by_cases h0 : 0 < i
        · have hpl := par_lt (d := k) (by omega) h0
          have hq1 : IntKind.i64.wrap (((i : Int) - 1) / (k : Int)) = ((par k i : Nat) : Int) := by
            rw [show (i : Int) - 1 = ((i - 1 : Nat) : Int) by omega, show ((i - 1 : Nat) : Int) / (k : Int) = ((par k i : Nat) : Int) from rfl, IntKind.wrap_i64]; omega
          have hq2 : IntKind.i64.wrap (((i : Int) - 1).tdiv (k : Int)) = ((par k i : Nat) : Int) := by rw [Int.tdiv_eq_ediv_of_nonneg (by omega)]; exact hq1
          have HE : Hid ((q + 1) + dep k (par k i) = R) := Lib.hid (by rw [← HRR.out, dep_succ (by omega) h0]; omega)
          generalize par k i = p at *
          have h0z : (0 : Int) < (i : Int) := by omega
          have hk0 : ((k : Int) == 0) = false := by simp; omega
          clear HRR
          go_wp2_with fail
          go_roundw
          case rel => exact ⟨q + 1, p, by go_num, by first | rfl | go_num, by omega, HE.out, by first | rfl | trivial⟩
          case measure => simp [intOf]; omega
        · obtain rfl : i = 0 := by omega
          have HE : Hid ((q : Int) = (R : Int)) := Lib.hid (by rw [← HRR.out]; rfl)
          clear h0
          go_wp2_with fail
          go_ret2
          exact ⟨by rw [← HE.out]; rfl, Below.refl _ _⟩
    · have HD := Lib.hid (fun W => l1In_no d 2 8 W (by unfold OkD at hd; omega))
      rw [depAll_no (fun h => hd h.2.2)]
      clear hd hn
      go_enter Try.func54, Try.ntmps54
      go_wp2_with fail
      refine (HN.out _).mono ?_
      rintro e w1 ⟨rfl, rfl⟩
      go_wp2_with fail
      refine (HD.out _).mono ?_
      rintro e w2 ⟨rfl, rfl⟩
      go_wp2_with fail
      go_ret2
      exact ⟨rfl, Below.refl _ _⟩
  · have HN := Lib.hid (fun W => l1In_no n 1 64 W (by omega))
    rw [depAll_no (fun h => hn ⟨h.1, h.2.1⟩)]
    clear hn
    go_enter Try.func54, Try.ntmps54
    go_wp2_with fail
    refine (HN.out _).mono ?_
    rintro e w1 ⟨rfl, rfl⟩
    go_wp2_with fail
    go_ret2
    exact ⟨rfl, Below.refl _ _⟩

end Go.Proofs.Ytfcgnfhpfooelaa
