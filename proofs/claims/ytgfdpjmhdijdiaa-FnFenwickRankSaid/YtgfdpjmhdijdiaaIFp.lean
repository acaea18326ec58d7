/- The program's FenwickPrefix, by its contract. -/
import Derived.Test.YtgfdpjmhdijdiaaIFv
import Derived.Test.YtgfdpjmhdijdiaaFenQ
namespace Go.Proofs.Ytgfdpjmhdijdiaa
open Go.RowKit Fw
set_option linter.unusedVariables false

set_option maxRecDepth 100000 in
set_option maxHeartbeats 1000000 in
theorem implFp_any (x o k : Nat) (l : List Int) (n : Int) (w : World) (hv : FlatAt w (.slice (some ⟨x, o, none⟩) l.length k) l.length (ints l)) (hn : l.length ≤ 1048576) (hi : IsW l) :
    Calls Try.prog 47 #[.agg #[.slice (some ⟨x, o, none⟩) l.length k], .int .i64 n] w fun e w' => e = .returned (.tuple #[.int .i64 (preF l n).1, .int .i64 (preF l n).2.1, .bool (preF l n).2.2]) ∧ Below w.heap.size w w' := by
  obtain ⟨W, hW, hx, hz, hb⟩ := box1 w 53 (.slice (some ⟨x, o, none⟩) l.length k)
  have HV := Lib.hid (hv.below hb)
  have HB := Lib.hid hb
  have HX := Lib.hid hx
  have hc0 := hx.cell
  clear hv hb hx
  have HF := Lib.hid (implIv_any x o k l W HV.out hn hi)
  by_cases hok : OkF l
  · rw [decide_eq_true hok] at HF
    by_cases h0 : 0 ≤ n
    · have g0 : ¬ n < 0 := by omega
      by_cases h1 : n ≤ l.length
      · have g1 : ¬ (l.length : Int) < n := by omega
        obtain ⟨N, rfl⟩ : ∃ N : Nat, n = N := ⟨n.toNat, by omega⟩
        have h64 := hok.len
        have HR : Hid (preF l (N : Int) = (pw l N 0, (cw N : Int), true)) := Lib.hid (by rw [preF_yes hok h0 h1, Int.toNat_natCast, pw_all hok hi (by omega)])
        clear hok h0
        have h1n : N ≤ l.length := by omega
        clear h1
        rw [HR.out]
        clear HR
        obtain ⟨P, hP⟩ : ∃ P, P = pw l N 0 := ⟨_, rfl⟩
        obtain ⟨C, hC⟩ : ∃ C, C = cw N := ⟨_, rfl⟩
        have hC7 : C ≤ 7 := by rw [hC]; exact cw_small (by omega)
        have HP := Lib.hid hP
        have HC := Lib.hid hC
        rw [← hP, ← hC]
        clear hP hC
        have hd0 : decide ((N : Int) < 0) = false := decide_eq_false (by omega)
        have hd1 : decide (l.length < N) = false := decide_eq_false (by omega)
        have hd2 : decide ((l.length : Int) < (N : Int)) = false := decide_eq_false (by omega)
        have hw0 : IntKind.i64.wrap ((N : Int) - 1) = (N : Int) - 1 := by rw [IntKind.wrap_i64]; omega
        go_enter Try.func47, Try.ntmps47
        go_wp2_with fail
        rw [← hW]
        refine HF.out.mono ?_
        rintro e w1 ⟨rfl, hb1⟩
        have HV1 := Lib.hid (HV.out.below hb1)
        have hc1 := (boxed_below HX.out hb1 (by omega)).cell
        have HB1 := Lib.hid (HB.out.trans (hb1.mono (by omega)))
        clear hb1 HF HX
        go_wp2_with fail
        go_loopw [7, 8, 9] (fun sv cv av wr => ∃ (m c : Nat) (s : Int), m ≤ N ∧ sv = .int .i64 s ∧ cv = .int .i64 (c : Int) ∧ av = .int .i64 ((m : Int) - 1) ∧ pw l m s = P ∧ c + cw m = C ∧ wr = w1) (fun _ _ av _ => (intOf av + 1).toNat)
        case atStart => exact ⟨N, 0, 0, Nat.le_refl _, rfl, rfl, rfl, HP.out.symm, by rw [Nat.zero_add, HC.out], rfl⟩
        case round =>
          obtain ⟨m, c, s, hm, rfl, rfl, rfl, hpw, hcw, rfl⟩ := hrel
          have HPW := Lib.hid hpw
          have HCW := Lib.hid hcw
          have hc7 : c ≤ 7 := by omega
          clear hpw hcw
          by_cases h0 : m = 0
          · subst h0
            have hz1 : (((0 : Nat) : Int) - 1) = -1 := by omega
            rw [hz1]
            have HE : Hid (s = P ∧ c = C) := Lib.hid ⟨by have := HPW.out; rwa [pw_end] at this, by have := HCW.out; rwa [cw_zero] at this⟩
            clear HPW HCW
            go_wp2_with fail
            go_ret3
            exact ⟨by rw [HE.out.1, HE.out.2]; rfl, HB1.out⟩
          · obtain ⟨j, rfl⟩ : ∃ j, m = j + 1 := ⟨m - 1, by omega⟩
            clear h0
            have hz1 : (((j + 1 : Nat) : Int) - 1) = (j : Int) := by omega
            rw [hz1]
            have hjl : j < l.length := by omega
            obtain ⟨p, hp⟩ : ∃ p, p = l.getD j 0 := ⟨_, rfl⟩
            have hw4 : wr.cell? ⟨x, o + j, none⟩ = some (.int .i64 p) := by rw [(flat_at HV1.out hjl).2, hp]
            have HL := Lib.hid (fun W => lowOf_any j (by omega) W)
            have hle := lo_le (j + 1)
            have hpo := lo_pos (n := j + 1) (by omega) (by omega)
            obtain ⟨s1, hs1⟩ : ∃ s1, s1 = IntKind.i64.wrap (s + p) := ⟨_, rfl⟩
            have HPW1 : Hid (pw l (j + 1 - lo (j + 1)) s1 = P) := Lib.hid (by have := HPW.out; rwa [pw_step s (by omega) (by omega), Nat.add_sub_cancel, ← hp, ← wr_def, ← hs1] at this)
            have HCW1 : Hid (c + 1 + cw (j + 1 - lo (j + 1)) = C) := Lib.hid (by have := HCW.out; rw [cw_step (by omega) (by omega)] at this; omega)
            have hw6 := hs1.symm
            clear hs1 hp HPW HCW hz1
            generalize lo (j + 1) = r at *
            obtain ⟨m1, hm1⟩ : ∃ m1, m1 = j + 1 - r := ⟨_, rfl⟩
            rw [← hm1] at HPW1 HCW1
            have hw5 : IntKind.i64.wrap ((j : Int) - (r : Int)) = (m1 : Int) - 1 := by rw [IntKind.wrap_i64]; omega
            have HM : Hid (m1 ≤ N ∧ m1 < j + 1) := Lib.hid (by omega)
            clear hm1
            go_wp2_with fail
            refine (HL.out _).mono ?_
            rintro e w2 ⟨rfl, rfl⟩
            go_wp2_with fail
            go_roundw
            case rel => exact ⟨m1, c + 1, s1, HM.out.1, rfl, by go_num, rfl, HPW1.out, HCW1.out, by first | rfl | trivial⟩
            case measure => have := HM.out.2; simp [intOf]; omega
      · have g1 : (l.length : Int) < n := by omega
        have HR := Lib.hid (preF_no (S := l) (n := n) (fun h => h1 h.2.2))
        rw [HR.out]
        clear hok h0 h1
        go_enter Try.func47, Try.ntmps47
        go_wp2_with fail
        rw [← hW]
        refine HF.out.mono ?_
        rintro e w1 ⟨rfl, hb1⟩
        have hc1 := (boxed_below HX.out hb1 (by omega)).cell
        have HB1 := Lib.hid (HB.out.trans (hb1.mono (by omega)))
        clear hb1 HF HX
        go_wp2_with fail
        go_ret3
        exact ⟨rfl, HB1.out⟩
    · have g0 : n < 0 := by omega
      have HR := Lib.hid (preF_no (S := l) (n := n) (fun h => h0 h.2.1))
      rw [HR.out]
      clear hok h0
      go_enter Try.func47, Try.ntmps47
      go_wp2_with fail
      rw [← hW]
      refine HF.out.mono ?_
      rintro e w1 ⟨rfl, hb1⟩
      have HB1 := Lib.hid (HB.out.trans (hb1.mono (by omega)))
      clear hb1 HF HX
      go_wp2_with fail
      go_ret3
      exact ⟨rfl, HB1.out⟩
  · rw [decide_eq_false hok] at HF
    have HR := Lib.hid (preF_no (S := l) (n := n) (fun h => hok h.1))
    rw [HR.out]
    clear hok
    go_enter Try.func47, Try.ntmps47
    go_wp2_with fail
    rw [← hW]
    refine HF.out.mono ?_
    rintro e w1 ⟨rfl, hb1⟩
    have HB1 := Lib.hid (HB.out.trans (hb1.mono (by omega)))
    clear hb1 HF HX
    go_wp2_with fail
    go_ret3
    exact ⟨rfl, HB1.out⟩

end Go.Proofs.Ytgfdpjmhdijdiaa
