/- The model's PushHeap and MergeHeaps, by contracts. -/
import Derived.Test.YtfcgnfhpfooelaaSHp2
import Derived.Test.YtfcgnfhpfooelaaOwnH
import Derived.Test.YtfcgnfhpfooelaaRet12
namespace Go.Proofs.Ytfcgnfhpfooelaa
open Go.RowKit P El Hp
set_option linter.unusedVariables false

attribute [local go_sem ↓ high] builtin_append_held

theorem buildF_count {d : Nat} {l : List Int} (hd : 0 < d) (hl : l.length ≤ 64) : (buildF d l).2 ≤ 6000 := by
  have h1 := (bl_count (d := d) (n := l.length) hd l.length (l, 0)).2
  have h2 : l.length * l.length ≤ 64 * 64 := Nat.mul_le_mul hl hl
  simp only at h1; unfold buildF; omega

set_option maxRecDepth 100000 in
set_option maxHeartbeats 4000000 in
theorem specPush_any (b o c : Nat) (l : List Int) (d x : Int) (w : World) (hv : FlatAt w (.slice (some ⟨b, o, none⟩) l.length c) l.length (ints l)) (hn : l.length ≤ 1048576) :
    Calls Try.prog 44 #[.slice (some ⟨b, o, none⟩) l.length c, .int .i64 d, .int .i64 x] w (RetI1 (pushAll l d x) w) := by
  have HOWN := Lib.hid (l1OwnH_any b o c l w hv hn)
  have HFV := Lib.hid hv
  have HNONE : Hid (¬ (IsHp l d ∧ OkL (l ++ [x])) → ∀ w1, Below w.heap.size w w1 → RetI1 (pushAll l d x) w (.returned (.tuple #[.slice (some ⟨w1.heap.size, 0, none⟩) 0 0, .int .i64 0, .bool false])) (w1.alloc (.cells #[] 3))) := Lib.hid (fun h w1 hb => by rw [pushAll_no h]; exact RetI1.none w w1 hb)
  have HHP := Lib.hid (fun W (h : FlatAt W (.slice (some ⟨b, o, none⟩) l.length c) l.length (ints l)) => l6Heap_any _ l d W h hn)
  obtain ⟨P1, hP⟩ : ∃ P1, P1 = l ++ [x] := ⟨_, rfl⟩
  have hPL : P1.length = l.length + 1 := by rw [hP]; simp
  have HAP := Lib.hid (fun g k W (h : Held w.heap.size W (.slice (some ⟨g, 0, none⟩) l.length k) l) (hB : w.heap.size ≤ W.heap.size) => appendOne w.heap.size _ l x W h hB hn)
  have HLI := Lib.hid (fun v W (h : FlatAt W v P1.length (ints P1)) (h1 : P1.length ≤ 1048576) => l2List_any v P1 W h h1)
  rw [← hP] at HAP HNONE
  have HPL := Lib.hid hPL
  have HP := Lib.hid hP
  by_cases hok : IsHp l d
  · rw [decide_eq_true hok] at HHP
    have h64 := hok.1.1
    obtain ⟨k, rfl, hk0, hk2, hk8⟩ := hok.2.1.nat
    by_cases hok2 : OkL P1
    · rw [decide_eq_true hok2] at HLI
      have HF := Lib.hid (pushAll_yes (l := l) (d := (k : Int)) (x := x) ⟨hok, by rw [← hP]; exact hok2⟩)
      rw [hk0] at HF
      have HLN := Lib.hid (pushF_length (d := k) (by omega) l x)
      have hcb : (pushF k l x).2 ≤ 100 := by
        have h1 := push_count (d := k) (by omega) l x
        have h2 := dep_le (d := k) (by omega) l.length l.length (Nat.le_refl _)
        omega
      have HR0 : Hid (up k l.length (P1, 0) = pushF k l x) := Lib.hid (by rw [hP]; rfl)
      generalize pushF k l x = R at HF HLN hcb HR0
      have hP64 : P1.length ≤ 64 := hok2.1
      have HPZ : Hid ((P1.length : Int) - 1 = (l.length : Int)) := Lib.hid (by omega)
      clear hok hok2 hv hP hPL HNONE
      go_enter Try.func44, Try.ntmps44
      go_wp2_with fail
      refine HOWN.out.mono ?_
      rintro e w1 ⟨g0, c0, rfl, hH, hb1⟩
      obtain ⟨v2, w2, hrun, hH2, hb2⟩ := HAP.out g0 c0 w1 hH hb1.size
      have HB2 := Lib.hid (hb1.trans hb2)
      obtain ⟨g, cap, rfl, hg, hcap, hrow⟩ := hH2.row
      have HG : Hid (w.heap.size ≤ g) := Lib.hid hg
      have HV2 := Lib.hid (HFV.out.below HB2.out)
      have HROW := Lib.hid hrow
      clear hH hb1 hH2 hb2 HOWN HAP HFV hg hrow
      go_wp2_with fail
      refine (HHP.out _ HV2.out).mono ?_
      rintro e w3 ⟨rfl, hb3⟩
      have HB3 := Lib.hid (HB2.out.trans (hb3.mono HB2.out.size))
      have HROW3 := Lib.hid (HROW.out.below hb3 HROW.out.1)
      clear hb3 HROW HB2 HHP HV2
      go_wp2_with fail
      refine (HLI.out _ _ (HROW3.out.flat hcap) (by omega)).mono ?_
      rintro e w4 ⟨rfl, hb4⟩
      have HB4 := Lib.hid (HB3.out.trans (hb4.mono HB3.out.size))
      have HROW4 := Lib.hid (HROW3.out.below hb4 HROW3.out.1)
      have HPL2 : Hid (P1.length = l.length + 1) := HPL
      have hwl : IntKind.i64.wrap ((P1.length : Int) - 1) = (l.length : Int) := by have := HPL.out; rw [IntKind.wrap_i64]; omega
      clear hb4 HROW3 HB3 HLI HPL
      go_wp2_with fail
      go_loopw [10, 11] (fun qv iv wr => ∃ (i : Nat) (M : List Int) (p : Nat), qv = .int .i64 (p : Int) ∧ iv = .int .i64 (i : Int) ∧ up k i (M, p) = R ∧ M.length = P1.length ∧ i ≤ l.length ∧ CellRow wr g (ints M) ∧ Below w.heap.size w wr) (fun _ iv _ => (intOf iv).toNat)
      case atStart => exact ⟨l.length, P1, 0, rfl, by first | (rw [HPZ.out]) | rfl, HR0.out, rfl, Nat.le_refl _, HROW4.out, HB4.out⟩
      case round =>
        obtain ⟨i, M, p, rfl, rfl, hr, hML, hi, hg, hb⟩ := hrel
        have HGR := Lib.hid hg
        have HB := Lib.hid hb
        have HML := Lib.hid hML
        have HRR := Lib.hid hr
        have hp : p ≤ 100 := by have := (up_count (d := k) (i := i) (by omega) (M, p)).1; rw [hr] at this; simp only at this; omega
        have hiP : i < P1.length := by have := HPL2.out; omega
        clear hr hg hb HR0 HROW4 HB4 hML
        by_cases h0 : 0 < i
        · have hz0 : decide ((0 : Int) < (i : Int)) = true := decide_eq_true (by omega)
          have hz0n : decide (0 < i) = true := decide_eq_true h0
          have hpl := par_lt (d := k) (by omega) h0
          have hq1 : IntKind.i64.wrap (((i : Int) - 1) / (k : Int)) = ((par k i : Nat) : Int) := by
            rw [show (i : Int) - 1 = ((i - 1 : Nat) : Int) by omega, show ((i - 1 : Nat) : Int) / (k : Int) = ((par k i : Nat) : Int) from rfl, IntKind.wrap_i64]; omega
          have hq2 : IntKind.i64.wrap (((i : Int) - 1).tdiv (k : Int)) = ((par k i : Nat) : Int) := by rw [Int.tdiv_eq_ediv_of_nonneg (by omega)]; exact hq1
          have hkz : ((k : Int) == 0) = false := beq_eq_false_iff_ne.2 (by omega)
          obtain ⟨u, hu⟩ : ∃ u, u = M.getD i 0 := ⟨_, rfl⟩
          obtain ⟨v, hv⟩ : ∃ v, v = M.getD (par k i) 0 := ⟨_, rfl⟩
          have hcu := (HGR.out.2 i _ (ints_at (at_getD (by rw [HML.out]; exact hiP)))).1
          have hcv := (HGR.out.2 (par k i) _ (ints_at (at_getD (by rw [HML.out]; omega)))).1
          have HGO := Lib.hid (fun (hx : v < u) => (up_go (d := k) (S := (M, p)) (by omega) ⟨h0, by rw [← hu, ← hv]; exact hx⟩).symm.trans HRR.out)
          have HST := Lib.hid (fun (hx : ¬ v < u) => (up_stop (d := k) (i := i) (S := (M, p)) (fun hh => hx (by rw [hu, hv]; exact hh.2))).symm.trans HRR.out)
          have HSW := Lib.hid (fun W (hW : CellRow W g (ints M)) => sswap_any (c := cap) i (par k i) W hW (by rw [HML.out]; omega) (by rw [HML.out]; exact hiP) (by rw [HML.out]; omega) (by omega))
          rw [HML.out] at HSW
          rw [← hu] at hcu
          rw [← hv] at hcv
          generalize par k i = q at *
          have HSL : Hid ((swapped M i q).length = P1.length) := Lib.hid (by rw [swapped_length]; exact HML.out)
          have hiz : (i : Int) < P1.length := by omega
          have hqz : (q : Int) < P1.length := by omega
          have hqP : q < P1.length := by omega
          clear hu hv
          by_cases hlt : v < u
          · have hgd : decide (v < u) = true := decide_eq_true hlt
            have HE := Lib.hid (HGO.out hlt)
            have HGT : Hid (∀ t, CellRow (wr.drewN t) g (ints M)) := Lib.hid (fun t => HGR.out.same rfl (Nat.le_refl _))
            have HBT : Hid (∀ t, Below w.heap.size w (wr.drewN t)) := Lib.hid (fun t => HB.out.trans ⟨rfl, rfl, rfl, Nat.le_refl _, fun _ _ => rfl⟩)
            clear HGO HST
            go_wp2_with fail
            go_quiet (fail)
            go_wp2_with fail
            refine (HSW.out _ (HGT.out _)).mono ?_
            rintro e w5 ⟨rfl, hr5, hb5⟩
            have HB5 := Lib.hid ((HBT.out _).trans (hb5.below HG.out (HBT.out _).size))
            have HR5 := Lib.hid hr5
            clear hr5 hb5 HSW
            go_wp2_with fail
            go_roundw
            case rel => exact ⟨q, swapped M i q, p + 1, by go_num, by first | rfl | go_num, HE.out, HSL.out, by omega, HR5.out, HB5.out⟩
            case measure => simp [intOf]; omega
          · have hgd : decide (v < u) = false := decide_eq_false hlt
            have HE := Lib.hid (HST.out (by omega))
            have HRES : Hid (∀ t, RetI1 (pushAll l (k : Int) x) w (.returned (.tuple #[.slice (some ⟨g, 0, none⟩) P1.length cap, .int .i64 (p : Int), .bool true])) (wr.drewN t)) := Lib.hid (fun t => by
              rw [HF.out, ← HE.out]
              exact ⟨g, cap, by rw [HML.out], by simp only; rw [HML.out]; exact hcap, HG.out, HGR.out.same rfl (Nat.le_refl _), HB.out.trans ⟨rfl, rfl, rfl, Nat.le_refl _, fun _ _ => rfl⟩⟩)
            clear HGO HST HSW
            go_wp2_with fail
            go_quiet (fail)
            go_wp2_with fail
            go_ret3
            exact HRES.out _
        · obtain rfl : i = 0 := by omega
          have HE : Hid ((M, p) = R) := Lib.hid ((up_stop (d := k) (i := 0) (S := (M, p)) (fun hh => h0 hh.1)).symm.trans HRR.out)
          have HRES : Hid (∀ t, RetI1 (pushAll l (k : Int) x) w (.returned (.tuple #[.slice (some ⟨g, 0, none⟩) P1.length cap, .int .i64 (p : Int), .bool true])) (wr.drewN t)) := Lib.hid (fun t => by
            rw [HF.out, ← HE.out]
            exact ⟨g, cap, by rw [HML.out], by simp only; rw [HML.out]; exact hcap, HG.out, HGR.out.same rfl (Nat.le_refl _), HB.out.trans ⟨rfl, rfl, rfl, Nat.le_refl _, fun _ _ => rfl⟩⟩)
          clear h0
          go_wp2_with fail
          go_quiet (fail)
          go_wp2_with fail
          go_ret3
          exact HRES.out _
    · rw [decide_eq_false hok2] at HLI
      have HN := Lib.hid (HNONE.out (fun h => hok2 h.2))
      have hP64 : P1.length ≤ 1048576 := by omega
      clear hok hok2 hv hP hPL HNONE
      go_enter Try.func44, Try.ntmps44
      go_wp2_with fail
      refine HOWN.out.mono ?_
      rintro e w1 ⟨g0, c0, rfl, hH, hb1⟩
      obtain ⟨v2, w2, hrun, hH2, hb2⟩ := HAP.out g0 c0 w1 hH hb1.size
      have HB2 := Lib.hid (hb1.trans hb2)
      obtain ⟨g, cap, rfl, hg, hcap, hrow⟩ := hH2.row
      have HV2 := Lib.hid (HFV.out.below HB2.out)
      have HROW := Lib.hid hrow
      clear hH hb1 hH2 hb2 HOWN HAP HFV hg hrow
      go_wp2_with fail
      refine (HHP.out _ HV2.out).mono ?_
      rintro e w3 ⟨rfl, hb3⟩
      have HB3 := Lib.hid (HB2.out.trans (hb3.mono HB2.out.size))
      have HROW3 := Lib.hid (HROW.out.below hb3 HROW.out.1)
      clear hb3 HROW HB2 HHP HV2
      go_wp2_with fail
      refine (HLI.out _ _ (HROW3.out.flat hcap) hP64).mono ?_
      rintro e w4 ⟨rfl, hb4⟩
      have HRES := Lib.hid (HN.out w4 (HB3.out.trans (hb4.mono HB3.out.size)))
      clear hb4 HROW3 HB3 HLI HPL HN
      go_wp2_with fail
      go_ret3
      exact HRES.out
  · rw [decide_eq_false hok] at HHP
    have HN := Lib.hid (HNONE.out (fun h => hok h.1))
    clear hok hv hP hPL HNONE
    go_enter Try.func44, Try.ntmps44
    go_wp2_with fail
    refine HOWN.out.mono ?_
    rintro e w1 ⟨g0, c0, rfl, hH, hb1⟩
    obtain ⟨v2, w2, hrun, hH2, hb2⟩ := HAP.out g0 c0 w1 hH hb1.size
    have HB2 := Lib.hid (hb1.trans hb2)
    obtain ⟨g, cap, rfl, hg, hcap, hrow⟩ := hH2.row
    have HV2 := Lib.hid (HFV.out.below HB2.out)
    clear hH hb1 hH2 hb2 HOWN HAP HFV hg hrow
    go_wp2_with fail
    refine (HHP.out _ HV2.out).mono ?_
    rintro e w3 ⟨rfl, hb3⟩
    have HRES := Lib.hid (HN.out w3 (HB2.out.trans (hb3.mono HB2.out.size)))
    clear hb3 HB2 HHP HV2 HN
    go_wp2_with fail
    go_ret3
    exact HRES.out

end Go.Proofs.Ytfcgnfhpfooelaa
