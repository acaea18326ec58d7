/- The model's PartitionLomuto, by its contract. -/
import Derived.Test.YtipdfmedbcafpaaQuickA
import Derived.Test.YtipdfmedbcafpaaSExch
import Derived.Test.YtipdfmedbcafpaaIn
import Derived.Test.YtipdfmedbcafpaaOwnI
import Derived.Test.YtipdfmedbcafpaaRet12
namespace Go.Proofs.Ytipdfmedbcafpaa
open Go.RowKit P El Qk
set_option linter.unusedVariables false

set_option maxRecDepth 100000 in
set_option maxHeartbeats 4000000 in
theorem specLom_any (b o c : Nat) (l : List Int) (p : Int) (w : World) (hv : FlatAt w (.slice (some ⟨b, o, none⟩) l.length c) l.length (ints l)) (hn : l.length ≤ 1048576) :
    Calls Try.prog 36 #[.slice (some ⟨b, o, none⟩) l.length c, .int .i64 p] w (RetI1 (lomAll l p) w) := by
  have HV := Lib.hid (l2List_any _ l w hv hn)
  have HNONE : Hid (¬ (OkL l ∧ 0 ≤ p ∧ p < l.length) → ∀ w1, Below w.heap.size w w1 → RetI1 (lomAll l p) w (.returned (.tuple #[.slice (some ⟨w1.heap.size, 0, none⟩) 0 0, .int .i64 0, .bool false])) (w1.alloc (.cells #[] 3))) := Lib.hid (fun h w1 hb => by rw [lomAll_no h]; exact RetI1.none w w1 hb)
  by_cases hok : OkL l
  · rw [decide_eq_true hok] at HV
    have h64 := hok.1
    by_cases hp : 0 ≤ p ∧ p < l.length
    · obtain ⟨q, rfl⟩ : ∃ q : Nat, p = q := ⟨p.toNat, by omega⟩
      have hq : q < l.length := by omega
      have HF := Lib.hid (lomAll_yes hok hq)
      have HOWN := Lib.hid (fun W (h : FlatAt W (.slice (some ⟨b, o, none⟩) l.length c) l.length (ints l)) => l1Own_any b o c l W h hn)
      obtain ⟨n, hln⟩ : ∃ n, n = l.length - 1 := ⟨_, rfl⟩
      have hn63 : n ≤ 63 := by omega
      have hwn : IntKind.i64.wrap ((l.length : Int) - 1) = (n : Int) := by rw [IntKind.wrap_i64]; omega
      have HX := Lib.hid (fun W => l1In_yes (q : Int) 0 (n : Int) W (by omega) (by omega))
      have HSW0 := Lib.hid (fun (g cap : Nat) W (h : CellRow W g (ints l)) => sexch_any (c := cap) (n := l.length) q n W (Seg.of_row h) rfl hn hq (by omega))
      have HSW := Lib.hid (fun (g cap i k : Nat) (M : List Int) W (h : CellRow W g (ints M)) (hM : M.length = l.length) (hi : i ≤ n) (hk : k ≤ n) => sexch_any (c := cap) (n := l.length) i k W (Seg.of_row h) hM hn (by omega) (by omega))
      have HL0 := Lib.hid (show Lom l (l.getD q 0) n 0 (swapped l q n, 0) from ⟨swapped_perm hq (by omega), Nat.zero_le _, fun j hj => absurd hj (Nat.not_lt_zero _), fun j _ hj => absurd hj (Nat.not_lt_zero _), by
        show (swapped l q n).getD _ 0 = _; rw [swapped_at _ hq (by omega), if_pos rfl]⟩)
      obtain ⟨R, hR⟩ : ∃ R, lomN n 0 n (swapped l q n, 0) = R := ⟨_, rfl⟩
      have HFR : Hid (lomF l q = (swapped R.1 n R.2, R.2)) := Lib.hid (by rw [← hR, hln]; rfl)
      have HRR := Lib.hid hR
      have HLN : Hid (n + 1 = l.length) := Lib.hid (by omega)
      have hqz : (0 : Int) ≤ (q : Int) := by omega
      have hqz2 : (q : Int) < (l.length : Int) := by omega
      have hqz3 : ¬ (q : Int) < 0 := by omega
      have hqz4 : ¬ (l.length : Int) ≤ (q : Int) := by omega
      have HFV := Lib.hid hv
      clear hok hv hR hln HNONE hp
      go_enter Try.func36, Try.ntmps36
      go_wp2_with fail
      refine HV.out.mono ?_
      rintro e w1 ⟨rfl, hb1⟩
      have HV1 := Lib.hid (HFV.out.below hb1)
      have HB1 := Lib.hid hb1
      clear hb1 HV HFV
      go_wp2_with fail
      refine (HX.out _).mono ?_
      rintro e w1' ⟨rfl, rfl⟩
      clear HX
      go_wp2_with fail
      refine (HOWN.out _ HV1.out).mono ?_
      rintro e w2 ⟨g, cap, rfl, hcap, hg, hrow, hb2⟩
      have HG : Hid (w.heap.size ≤ g) := Lib.hid (Nat.le_trans HB1.out.size hg)
      have HCAP := Lib.hid hcap
      have HB2 := Lib.hid (HB1.out.trans (hb2.mono HB1.out.size))
      have HS := Lib.hid (HSW0.out g cap w2 hrow)
      clear hb2 hrow HOWN HV1 hg hcap HSW0 HB1
      go_wp2_with fail
      refine HS.out.mono ?_
      rintro e w3 ⟨rfl, hr3, hb3⟩
      have HR3 := Lib.hid hr3.row
      have HB3 := Lib.hid (HB2.out.trans (hb3.below HG.out HB2.out.size))
      clear hr3 hb3 HS HB2
      go_wp2_with fail
      go_loopw [9, 10] (fun sv iv wr => ∃ (i s : Nat) (M : List Int), iv = .int .i64 (i : Int) ∧ sv = .int .i64 (s : Int) ∧ lomN n i (n - i) (M, s) = R ∧ Lom l (l.getD q 0) n i (M, s) ∧ i ≤ n ∧ CellRow wr g (ints M) ∧ Below w.heap.size w wr) (fun _ iv _ => n - (intOf iv).toNat)
      case atStart => exact ⟨0, 0, _, rfl, rfl, HRR.out, HL0.out, Nat.zero_le _, HR3.out, HB3.out⟩
      case round =>
        obtain ⟨i, s, M, rfl, rfl, hr, hL, hi, hg, hb⟩ := hrel
        have HR := Lib.hid hr
        have HL := Lib.hid hL
        have HGR := Lib.hid hg
        have HB := Lib.hid hb
        have HML : Hid (M.length = l.length) := Lib.hid hL.perm.length_eq
        have hsi : s ≤ i := hL.le
        clear hr hL hg hb HR3 HB3 HL0 HRR
        by_cases hlt : i < n
        · have hltz : decide ((i : Int) < (n : Int)) = true := decide_eq_true (by omega)
          have hnl : n < l.length := by have := HLN.out; omega
          have hil : i < l.length := by omega
          have hiz : (i : Int) < l.length := by omega
          have hnz : (n : Int) < l.length := by omega
          obtain ⟨x, hx⟩ : ∃ x, x = M.getD i 0 := ⟨_, rfl⟩
          obtain ⟨y, hy⟩ : ∃ y, y = M.getD n 0 := ⟨_, rfl⟩
          obtain ⟨hcx, _⟩ := HGR.out.2 i _ (ints_at (at_getD (by rw [HML.out]; exact hil)))
          obtain ⟨hcy, _⟩ := HGR.out.2 n _ (ints_at (at_getD (by rw [HML.out]; exact hnl)))
          rw [← hx] at hcx
          rw [← hy] at hcy
          have HST := Lib.hid (HL.out.step hlt hnl)
          have HRN : Hid (lomN n (i + 1) (n - (i + 1)) (lomAt n i (M, s)) = R) := Lib.hid (by rw [← lomN_succ, show n - (i + 1) + 1 = n - i by omega]; exact HR.out)
          by_cases hxy : x < y
          · have hd : decide (x < y) = true := decide_eq_true hxy
            have HE : Hid (lomAt n i (M, s) = (swapped M i s, s + 1)) := Lib.hid (lomAt_yes (by rw [← hx, ← hy]; exact hxy))
            rw [HE.out] at HST HRN
            have HS := Lib.hid (fun W h => HSW.out g cap i s M W h HML.out hi (by omega))
            have HROW := Lib.hid (fun t => HGR.out.same (w' := wr.drewN t) rfl (Nat.le_refl _))
            have HBT : Hid (∀ t, Below w.heap.size w (wr.drewN t)) := Lib.hid (fun t => HB.out.trans ⟨rfl, rfl, rfl, Nat.le_refl _, fun _ _ => rfl⟩)
            clear hx hy HSW HL HR HGR HB
            go_wp2_with fail
            go_quiet (fail)
            go_wp2_with fail
            refine (HS.out _ (HROW.out _)).mono ?_
            rintro e w4 ⟨rfl, hr4, hb4⟩
            have HR4 := Lib.hid hr4.row
            have HB4 := Lib.hid ((HBT.out _).trans (hb4.below HG.out (HBT.out _).size))
            clear hr4 hb4 HS HROW HBT
            go_wp2_with fail
            go_roundw
            case rel => exact ⟨i + 1, s + 1, _, by go_num, by go_num, HRN.out, HST.out, by omega, HR4.out, HB4.out⟩
            case measure => simp [intOf]; omega
          · have hd : decide (x < y) = false := decide_eq_false hxy
            have HE : Hid (lomAt n i (M, s) = (M, s)) := Lib.hid (lomAt_no (by rw [← hx, ← hy]; exact hxy))
            rw [HE.out] at HST HRN
            have HROW := Lib.hid (fun t => HGR.out.same (w' := wr.drewN t) rfl (Nat.le_refl _))
            have HBT : Hid (∀ t, Below w.heap.size w (wr.drewN t)) := Lib.hid (fun t => HB.out.trans ⟨rfl, rfl, rfl, Nat.le_refl _, fun _ _ => rfl⟩)
            clear hx hy HSW HL HR HGR HB
            go_wp2_with fail
            go_quiet (fail)
            go_wp2_with fail
            go_roundw
            case rel => exact ⟨i + 1, s, M, by go_num, by first | rfl | go_num, HRN.out, HST.out, by omega, HROW.out _, HBT.out _⟩
            case measure => simp [intOf]; omega
        · have hltz : decide ((i : Int) < (n : Int)) = false := decide_eq_false (by omega)
          have HE : Hid ((M, s) = R) := Lib.hid (by rw [← HR.out, show n - i = 0 by omega]; rfl)
          have HS := Lib.hid (HSW.out g cap n s M wr HGR.out HML.out (Nat.le_refl _) (by omega))
          clear HSW HR
          go_wp2_with fail
          refine HS.out.mono ?_
          rintro e w4 ⟨rfl, hr4, hb4⟩
          have HRES : Hid (RetI1 (lomAll l (q : Int)) w (.returned (.tuple #[.slice (some ⟨g, 0, none⟩) l.length cap, .int .i64 (s : Int), .bool true])) w4) := Lib.hid (by
            rw [HF.out, HFR.out, ← HE.out]
            exact ⟨g, cap, by simp only; rw [swapped_length, HML.out], by simp only; rw [swapped_length, HML.out]; exact HCAP.out, HG.out, hr4.row, HB.out.trans (hb4.below HG.out HB.out.size)⟩)
          clear hr4 hb4 HS
          go_wp2_with fail
          go_ret3
          exact HRES.out
    · have HN := Lib.hid (HNONE.out (fun h => hp h.2))
      have HX := Lib.hid (fun W => l1In_no p 0 ((l.length : Int) - 1) W (by omega))
      clear hok HNONE hv hp
      go_enter Try.func36, Try.ntmps36
      go_wp2_with fail
      refine HV.out.mono ?_
      rintro e w1 ⟨rfl, hb1⟩
      have HRES := Lib.hid (HN.out w1 hb1)
      clear hb1 HV HN
      go_wp2_with fail
      refine (HX.out _).mono ?_
      rintro e w1' ⟨rfl, rfl⟩
      go_wp2_with fail
      go_ret3
      exact HRES.out

  · rw [decide_eq_false hok] at HV
    have HN := Lib.hid (HNONE.out (fun h => hok h.1))
    clear hok HNONE hv
    go_enter Try.func36, Try.ntmps36
    go_wp2_with fail
    refine HV.out.mono ?_
    rintro e w1 ⟨rfl, hb1⟩
    have HRES := Lib.hid (HN.out w1 hb1)
    clear hb1 HV HN
    go_wp2_with fail
    go_ret3
    exact HRES.out

end Go.Proofs.Ytipdfmedbcafpaa
