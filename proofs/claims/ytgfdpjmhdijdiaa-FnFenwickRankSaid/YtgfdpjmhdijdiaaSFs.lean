/- The model's FenwickSelect, by its contract. -/
import Derived.Test.YtgfdpjmhdijdiaaSFp
namespace Go.Proofs.Ytgfdpjmhdijdiaa
open Go.RowKit Fw
set_option linter.unusedVariables false

set_option maxRecDepth 100000 in
set_option maxHeartbeats 1000000 in
theorem specFs_any (x o k : Nat) (l : List Int) (n : Int) (w : World) (hv : FlatAt w (.slice (some ⟨x, o, none⟩) l.length k) l.length (ints l)) (hn : l.length ≤ 1048576) (hi : IsW l) :
    Calls Try.prog 52 #[.agg #[.slice (some ⟨x, o, none⟩) l.length k], .int .i64 n] w fun e w' => e = .returned (.tuple #[.int .i64 (selF l n).1, .bool (selF l n).2]) ∧ Below w.heap.size w w' := by
  obtain ⟨W, hW, hx, hz, hb⟩ := box1 w 53 (.slice (some ⟨x, o, none⟩) l.length k)
  have HV := Lib.hid (hv.below hb)
  have HB := Lib.hid hb
  have HX := Lib.hid hx
  have hc0 := hx.cell
  clear hv hb hx
  have HF := Lib.hid (l10Fenwick_any _ l W HV.out hn hi)
  by_cases hok : OkF l
  · rw [decide_eq_true hok] at HF
    by_cases h0 : 0 ≤ n
    · have g0 : ¬ n < 0 := by omega
      have hd0 : decide (n < 0) = false := decide_eq_false g0
      have h64 := hok.len
      have HPR : Hid (∀ W1, Below W.heap.size W W1 → ∀ i : Nat, i < l.length → Calls Try.prog 114 #[.slice (some ⟨x, o, none⟩) l.length k, .int .i64 ((i : Int) + 1)] W1 fun e w' => e = .returned (.tuple #[.int .i64 (pre (vl l) (i + 1)), .int .i64 ((cw (i + 1) : Nat) : Int)]) ∧ w' = W1) := Lib.hid (fun W1 h1 i hil => by
        have h := l10Prefix_any _ l (i + 1) W1 (HV.out.below h1) (by omega) (by omega)
        rw [pw_all hok hi (by omega), show ((i + 1 : Nat) : Int) = (i : Int) + 1 by omega] at h
        exact h)
      have HYES : Hid (∀ i, i < l.length → pre (vl l) i ≤ n → n < pre (vl l) (i + 1) → selF l n = ((i : Int), true)) := Lib.hid (fun i hil h1 h2 => by
        have hm := OkM.mono hok (a := i + 1) (b := l.length) (by omega) (by rw [vl_len]; omega)
        rw [selF_yes ⟨hok, h0, by omega⟩, sel_is hok (by rw [vl_len]; exact hil) h1 h2])
      have HNO : Hid (¬ n < pre (vl l) l.length → selF l n = (0, false)) := Lib.hid (fun h => selF_no (fun hh => h hh.2.2))
      have HST : Hid (pre (vl l) 0 ≤ n) := Lib.hid (by rw [pre_zero]; exact h0)
      clear hok h0
      go_enter Try.func52, Try.ntmps52
      go_wp2_with fail
      rw [← hW]
      refine HF.out.mono ?_
      rintro e w1 ⟨rfl, hb1⟩
      have HPR1 := Lib.hid (HPR.out w1 hb1)
      have hc1 := (boxed_below HX.out hb1 (by omega)).cell
      have HB1 := Lib.hid (HB.out.trans (hb1.mono (by omega)))
      clear hb1 HF HX HPR
      go_wp2_with fail
      go_loopw [6] (fun iv wr => ∃ i : Nat, i ≤ l.length ∧ iv = .int .i64 (i : Int) ∧ pre (vl l) i ≤ n ∧ wr = w1) (fun iv _ => l.length - (intOf iv).toNat)
      case atStart => exact ⟨0, Nat.zero_le _, rfl, HST.out, rfl⟩
      case round =>
        obtain ⟨i, hil, rfl, hpi, rfl⟩ := hrel
        by_cases hlt : i < l.length
        · have hltz : (i : Int) < (l.length : Int) := by omega
          have HP := Lib.hid (HPR1.out i hlt)
          have HY := Lib.hid (HYES.out i hlt hpi)
          clear hpi
          obtain ⟨s, hs⟩ : ∃ s, s = pre (vl l) (i + 1) := ⟨_, rfl⟩
          rw [← hs] at HP HY
          generalize cw (i + 1) = C at *
          by_cases c : n < s
          · have HE := Lib.hid (HY.out c)
            clear HY HYES
            go_wp2_with fail
            refine HP.out.mono ?_
            rintro e w2 ⟨rfl, rfl⟩
            go_wp2_with fail
            go_ret2
            exact ⟨by rw [HE.out]; rfl, HB1.out⟩
          · have HS : Hid (pre (vl l) (i + 1) ≤ n) := Lib.hid (by rw [← hs]; omega)
            clear HY hs
            go_wp2_with fail
            refine HP.out.mono ?_
            rintro e w2 ⟨rfl, rfl⟩
            go_wp2_with fail
            go_roundw
            case rel => exact ⟨i + 1, by omega, by go_num, HS.out, by first | rfl | trivial⟩
            case measure => simp [intOf]; omega
        · obtain rfl : i = l.length := by omega
          have HE := Lib.hid (HNO.out (by omega))
          clear hpi HYES
          go_wp2_with fail
          go_ret2
          exact ⟨by rw [HE.out]; rfl, HB1.out⟩
    · have g0 : n < 0 := by omega
      have HR := Lib.hid (selF_no (S := l) (k := n) (fun h => h0 h.2.1))
      rw [HR.out]
      clear hok h0
      go_enter Try.func52, Try.ntmps52
      go_wp2_with fail
      rw [← hW]
      refine HF.out.mono ?_
      rintro e w1 ⟨rfl, hb1⟩
      have HB1 := Lib.hid (HB.out.trans (hb1.mono (by omega)))
      clear hb1 HF HX
      go_wp2_with fail
      go_ret2
      exact ⟨rfl, HB1.out⟩
  · rw [decide_eq_false hok] at HF
    have HR := Lib.hid (selF_no (S := l) (k := n) (fun h => hok h.1))
    rw [HR.out]
    clear hok
    go_enter Try.func52, Try.ntmps52
    go_wp2_with fail
    rw [← hW]
    refine HF.out.mono ?_
    rintro e w1 ⟨rfl, hb1⟩
    have HB1 := Lib.hid (HB.out.trans (hb1.mono (by omega)))
    clear hb1 HF HX
    go_wp2_with fail
    go_ret2
    exact ⟨rfl, HB1.out⟩

end Go.Proofs.Ytgfdpjmhdijdiaa
