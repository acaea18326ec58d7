/- The model's l10Prefix and FenwickPrefix, by their contracts. -/
import Derived.Test.YtgfdpjmhdijdiaaSFv
import Derived.Test.YtgfdpjmhdijdiaaFenQ
namespace Go.Proofs.Ytgfdpjmhdijdiaa
open Go.RowKit Fw
set_option linter.unusedVariables false

set_option maxRecDepth 100000 in
set_option maxHeartbeats 1000000 in
theorem l10Prefix_any (v : Value) (l : List Int) (N : Nat) (w : World) (hv : FlatAt w v l.length (ints l)) (hn : l.length ≤ 126) (hN : N ≤ l.length) :
    Calls Try.prog 114 #[v, .int .i64 (N : Int)] w fun e w' => e = .returned (.tuple #[.int .i64 (pw l N 0), .int .i64 ((cw N : Nat) : Int)]) ∧ w' = w := by
  obtain ⟨a, c, rfl, _, h⟩ := hv
  have H := Lib.hid h
  clear h
  obtain ⟨P, hP⟩ : ∃ P, P = pw l N 0 := ⟨_, rfl⟩
  obtain ⟨C, hC⟩ : ∃ C, C = cw N := ⟨_, rfl⟩
  have hC7 : C ≤ 7 := by rw [hC]; exact cw_small (by omega)
  have HP := Lib.hid hP
  have HC := Lib.hid hC
  rw [← hP, ← hC]
  clear hP hC
  go_enter Try.func114, Try.ntmps114
  go_wp2_with fail
  go_loopw [6, 7, 8] (fun sv cv iv wr => ∃ (m c : Nat) (s : Int), m ≤ N ∧ sv = .int .i64 s ∧ cv = .int .i64 (c : Int) ∧ iv = .int .i64 (m : Int) ∧ pw l m s = P ∧ c + cw m = C ∧ wr = w) (fun _ _ iv _ => (intOf iv).toNat)
  case atStart => exact ⟨N, 0, 0, Nat.le_refl _, rfl, rfl, rfl, HP.out.symm, by rw [Nat.zero_add, HC.out], rfl⟩
  case round =>
    obtain ⟨m, c, s, hm, rfl, rfl, rfl, hpw, hcw, rfl⟩ := hrel
    have HPW := Lib.hid hpw
    have HCW := Lib.hid hcw
    have hc7 : c ≤ 7 := by omega
    clear hpw hcw
    by_cases h0 : m = 0
    · subst h0
      have HE : Hid (s = P ∧ c = C) := Lib.hid ⟨by have := HPW.out; rwa [pw_end] at this, by have := HCW.out; rwa [cw_zero] at this⟩
      clear HPW HCW
      go_wp2_with fail
      go_ret2
      exact ⟨by rw [HE.out.1, HE.out.2]; rfl, rfl⟩
    · have hmz : (0 : Int) < (m : Int) := by omega
      obtain ⟨j, hj⟩ : ∃ j, j = m - 1 := ⟨_, rfl⟩
      have hwj : IntKind.i64.wrap ((m : Int) - 1) = (j : Int) := by rw [IntKind.wrap_i64]; omega
      have hjl : j < l.length := by omega
      obtain ⟨p, hp⟩ : ∃ p, l[j]? = some p := ⟨_, List.getElem?_eq_getElem hjl⟩
      obtain ⟨b, o, rfl, hbb, hw4⟩ := H.out _ _ (ints_at hp)
      have HL := Lib.hid (fun W => l10Low_any m (by omega) (by omega) W)
      have hle := lo_le m
      have hpo := lo_pos (n := m) (by omega) (by omega)
      obtain ⟨s1, hs1⟩ : ∃ s1, s1 = IntKind.i64.wrap (s + p) := ⟨_, rfl⟩
      have HPW1 : Hid (pw l (m - lo m) s1 = P) := Lib.hid (by have := HPW.out; rw [pw_step s (by omega) (by omega), ← hj, List.getD_eq_getElem?_getD, hp, ← wr_def] at this; rw [hs1]; exact this)
      have HCW1 : Hid (c + 1 + cw (m - lo m) = C) := Lib.hid (by have := HCW.out; rw [cw_step (by omega) (by omega)] at this; omega)
      have hw6 := hs1.symm
      clear hs1 hp HPW HCW hj
      generalize lo m = r at *
      obtain ⟨m1, hm1⟩ : ∃ m1, m1 = m - r := ⟨_, rfl⟩
      rw [← hm1] at HPW1 HCW1
      have hw5 : IntKind.i64.wrap ((m : Int) - (r : Int)) = (m1 : Int) := by rw [IntKind.wrap_i64]; omega
      have HM : Hid (m1 ≤ N ∧ m1 < m) := Lib.hid (by omega)
      clear hm1
      go_wp2_with fail
      refine (HL.out _).mono ?_
      rintro e w2 ⟨rfl, rfl⟩
      go_wp2_with fail
      go_roundw
      case rel => exact ⟨m1, c + 1, s1, HM.out.1, rfl, by go_num, rfl, HPW1.out, HCW1.out, by first | rfl | trivial⟩
      case measure => have := HM.out.2; simp [intOf]; omega

set_option maxRecDepth 100000 in
set_option maxHeartbeats 1000000 in
theorem specFp_any (x o k : Nat) (l : List Int) (n : Int) (w : World) (hv : FlatAt w (.slice (some ⟨x, o, none⟩) l.length k) l.length (ints l)) (hn : l.length ≤ 1048576) (hi : IsW l) :
    Calls Try.prog 63 #[.agg #[.slice (some ⟨x, o, none⟩) l.length k], .int .i64 n] w fun e w' => e = .returned (.tuple #[.int .i64 (preF l n).1, .int .i64 (preF l n).2.1, .bool (preF l n).2.2]) ∧ Below w.heap.size w w' := by
  obtain ⟨W, hW, hx, hz, hb⟩ := box1 w 53 (.slice (some ⟨x, o, none⟩) l.length k)
  have HV := Lib.hid (hv.below hb)
  have HB := Lib.hid hb
  have HX := Lib.hid hx
  have hc0 := hx.cell
  clear hv hb hx
  have HF := Lib.hid (l10Fenwick_any _ l W HV.out hn hi)
  by_cases hok : OkF l
  · rw [decide_eq_true hok] at HF
    have HI := Lib.hid (fun W => l1In_any n 0 l.length W)
    by_cases h0 : 0 ≤ n ∧ n ≤ l.length
    · rw [decide_eq_true h0] at HI
      obtain ⟨N, rfl⟩ : ∃ N : Nat, n = N := ⟨n.toNat, by omega⟩
      have h64 := hok.len
      have HR : Hid (preF l (N : Int) = (pw l N 0, (cw N : Int), true)) := Lib.hid (by rw [preF_yes hok h0.1 h0.2, Int.toNat_natCast, pw_all hok hi (by omega)])
      have HPR := Lib.hid (fun W1 (h1 : Below W.heap.size W W1) => l10Prefix_any _ l N W1 (HV.out.below h1) (by omega) (by omega))
      rw [HR.out]
      generalize pw l N 0 = P at *
      generalize cw N = C at *
      clear hok h0 HR
      go_enter Try.func63, Try.ntmps63
      go_wp2_with fail
      rw [← hW]
      refine HF.out.mono ?_
      rintro e w1 ⟨rfl, hb1⟩
      have HPR1 := Lib.hid (HPR.out w1 hb1)
      have hc1 := (boxed_below HX.out hb1 (by omega)).cell
      have HB1 := Lib.hid (HB.out.trans (hb1.mono (by omega)))
      clear hb1 HF HX HPR
      go_wp2_with fail
      refine (HI.out _).mono ?_
      rintro e w2 ⟨rfl, rfl⟩
      go_wp2_with fail
      refine HPR1.out.mono ?_
      rintro e w2 ⟨rfl, rfl⟩
      go_wp2_with fail
      go_ret3
      exact ⟨rfl, HB1.out⟩
    · rw [decide_eq_false h0] at HI
      have HR := Lib.hid (preF_no (S := l) (n := n) (fun h => h0 h.2))
      rw [HR.out]
      clear hok h0
      go_enter Try.func63, Try.ntmps63
      go_wp2_with fail
      rw [← hW]
      refine HF.out.mono ?_
      rintro e w1 ⟨rfl, hb1⟩
      have hc1 := (boxed_below HX.out hb1 (by omega)).cell
      have HB1 := Lib.hid (HB.out.trans (hb1.mono (by omega)))
      clear hb1 HF HX
      go_wp2_with fail
      refine (HI.out _).mono ?_
      rintro e w2 ⟨rfl, rfl⟩
      go_wp2_with fail
      go_ret3
      exact ⟨rfl, HB1.out⟩
  · rw [decide_eq_false hok] at HF
    have HR := Lib.hid (preF_no (S := l) (n := n) (fun h => hok h.1))
    rw [HR.out]
    clear hok
    go_enter Try.func63, Try.ntmps63
    go_wp2_with fail
    rw [← hW]
    refine HF.out.mono ?_
    rintro e w1 ⟨rfl, hb1⟩
    have HB1 := Lib.hid (HB.out.trans (hb1.mono (by omega)))
    clear hb1 HF HX
    go_wp2_with fail
    go_ret3
    exact ⟨rfl, HB1.out⟩

end Go.Proofs.Ytgfdpjmhdijdiaa
