/- The model's MergeSorted, by its contract. -/
import Derived.Test.YtnjabdlhgmaeiaaMgS
import Derived.Test.YtnjabdlhgmaeiaaMgAll
import Derived.Test.YtnjabdlhgmaeiaaAscR
namespace Go.Proofs.Ytnjabdlhgmaeiaa
open Go.RowKit Mg
set_option linter.unusedVariables false

set_option maxRecDepth 100000 in
set_option maxHeartbeats 8000000 in
theorem specMergeS_any (b0 o0 c0 : Nat) (l0 : List (Int × Int)) (b1 o1 c1 : Nat) (l1 : List (Int × Int)) (w : World) (hv0 : FlatAt w (.slice (some ⟨b0, o0, none⟩) l0.length c0) l0.length (recs l0)) (hn0 : l0.length ≤ 1048576) (hv1 : FlatAt w (.slice (some ⟨b1, o1, none⟩) l1.length c1) l1.length (recs l1)) (hn1 : l1.length ≤ 1048576) :
    Calls Try.prog 25 #[.slice (some ⟨b0, o0, none⟩) l0.length c0, .slice (some ⟨b1, o1, none⟩) l1.length c1] w (Ret1C (mergeAll l0 l1) w) := by

  have HV0 := Lib.hid hv0
  have HV1 := Lib.hid hv1
  clear hv0 hv1
  have HA := Lib.hid (fun W (h : FlatAt W (.slice (some ⟨b0, o0, none⟩) l0.length c0) l0.length (recs l0)) => l2Records_any _ l0 W h hn0)
  have HB := Lib.hid (fun W (h : FlatAt W (.slice (some ⟨b1, o1, none⟩) l1.length c1) l1.length (recs l1)) => l2Records_any _ l1 W h hn1)
  have HC := Lib.hid (fun W (h : FlatAt W (.slice (some ⟨b0, o0, none⟩) l0.length c0) l0.length (recs l0)) => l5Ascending_any _ l0 W h hn0)
  have HD := Lib.hid (fun W (h : FlatAt W (.slice (some ⟨b1, o1, none⟩) l1.length c1) l1.length (recs l1)) => l5Ascending_any _ l1 W h hn1)
  by_cases ha : OkR l0
  · rw [decide_eq_true ha] at HA
    by_cases hb : OkR l1
    · rw [decide_eq_true hb] at HB
      by_cases hc : Mg.Asc l0
      · rw [decide_eq_true hc] at HC
        by_cases hd : Mg.Asc l1
        · rw [decide_eq_true hd] at HD
          by_cases h2 : l0.length + l1.length ≤ 64
          · have HF := Lib.hid (mergeAll_yes (a := l0) (b := l1) ⟨⟨ha, hc⟩, ⟨hb, hd⟩, h2⟩)
            have h2z : ¬ (64 : Int) < (l0.length : Int) + (l1.length : Int) := by omega
            have h2d : decide ((64 : Int) < (l0.length : Int) + (l1.length : Int)) = false := decide_eq_false h2z
            clear ha hb hc hd
            go_enter Try.func25, Try.ntmps25
            go_wp2_with fail
            refine (HA.out _ HV0.out).mono ?_
            rintro e w1 ⟨rfl, hb⟩
            have HV01 := Lib.hid (HV0.out.below hb)
            have HV11 := Lib.hid (HV1.out.below hb)
            have HBL1 := Lib.hid (hb)
            clear hb HA HV0 HV1
            go_wp2_with fail
            refine (HB.out _ HV11.out).mono ?_
            rintro e w2 ⟨rfl, hb⟩
            have HV02 := Lib.hid (HV01.out.below hb)
            have HV12 := Lib.hid (HV11.out.below hb)
            have HBL2 := Lib.hid (HBL1.out.trans (hb.mono HBL1.out.size))
            clear hb HB HV01 HV11 HBL1
            go_wp2_with fail
            refine (HC.out _ HV02.out).mono ?_
            rintro e w3 ⟨rfl, hb⟩
            have HV03 := Lib.hid (HV02.out.below hb)
            have HV13 := Lib.hid (HV12.out.below hb)
            have HBL3 := Lib.hid (HBL2.out.trans (hb.mono HBL2.out.size))
            clear hb HC HV02 HV12 HBL2
            go_wp2_with fail
            refine (HD.out _ HV13.out).mono ?_
            rintro e w4 ⟨rfl, hb⟩
            have HV04 := Lib.hid (HV03.out.below hb)
            have HV14 := Lib.hid (HV13.out.below hb)
            have HBL4 := Lib.hid (HBL3.out.trans (hb.mono HBL3.out.size))
            clear hb HD HV03 HV13 HBL3
            go_wp2_with fail
            have HMG := Lib.hid (specMerge_any b0 o0 c0 b1 o1 c1 l0 l1 w4 (Src.of_flat HV04.out (Nat.le_refl _)) (Src.of_flat HV14.out (Nat.le_refl _)) (by omega))
            obtain ⟨R, hR⟩ : ∃ R, R = mg l0 l1 := ⟨_, rfl⟩
            rw [← hR] at HMG HF
            clear hR HV04 HV14
            refine (HMG.out).mono ?_
            rintro e w5 ⟨g, c, rfl, hc, hg, hrow, hbel⟩
            have HRES : Hid (Ret1C (mergeAll l0 l1) w (.returned (.tuple #[.slice (some ⟨g, 0, none⟩) R.1.length c, .int .i64 (R.2 : Nat), .bool true])) w5) := Lib.hid (by
              rw [HF.out]
              exact ⟨g, c, rfl, hc, Nat.le_trans HBL4.out.size hg, hrow, HBL4.out.trans (hbel.mono HBL4.out.size)⟩)
            clear HMG hc hg hrow hbel HBL4 HF
            go_wp2_with fail
            go_ret3
            exact HRES.out
          · have HF := Lib.hid (mergeAll_no (a := l0) (b := l1) (fun h => h2 h.2.2))
            have h2z : (64 : Int) < (l0.length : Int) + (l1.length : Int) := by omega
            have h2d : decide ((64 : Int) < (l0.length : Int) + (l1.length : Int)) = true := decide_eq_true h2z
            clear ha hb hc hd
            go_enter Try.func25, Try.ntmps25
            go_wp2_with fail
            refine (HA.out _ HV0.out).mono ?_
            rintro e w1 ⟨rfl, hb⟩
            have HV01 := Lib.hid (HV0.out.below hb)
            have HV11 := Lib.hid (HV1.out.below hb)
            have HBL1 := Lib.hid (hb)
            clear hb HA HV0 HV1
            go_wp2_with fail
            refine (HB.out _ HV11.out).mono ?_
            rintro e w2 ⟨rfl, hb⟩
            have HV02 := Lib.hid (HV01.out.below hb)
            have HV12 := Lib.hid (HV11.out.below hb)
            have HBL2 := Lib.hid (HBL1.out.trans (hb.mono HBL1.out.size))
            clear hb HB HV01 HV11 HBL1
            go_wp2_with fail
            refine (HC.out _ HV02.out).mono ?_
            rintro e w3 ⟨rfl, hb⟩
            have HV03 := Lib.hid (HV02.out.below hb)
            have HV13 := Lib.hid (HV12.out.below hb)
            have HBL3 := Lib.hid (HBL2.out.trans (hb.mono HBL2.out.size))
            clear hb HC HV02 HV12 HBL2
            go_wp2_with fail
            refine (HD.out _ HV13.out).mono ?_
            rintro e w4 ⟨rfl, hb⟩
            have HV04 := Lib.hid (HV03.out.below hb)
            have HV14 := Lib.hid (HV13.out.below hb)
            have HBL4 := Lib.hid (HBL3.out.trans (hb.mono HBL3.out.size))
            clear hb HD HV03 HV13 HBL3
            have HRES : Hid (Ret1C (mergeAll l0 l1) w (.returned (.tuple #[.slice (some ⟨w4.heap.size, 0, none⟩) 0 0, .int .i64 0, .bool false])) (w4.alloc (.cells #[] 50))) := Lib.hid (by rw [HF.out]; exact Ret1C.none w w4 HBL4.out)
            go_wp2_with fail
            go_ret3
            exact HRES.out
        · rw [decide_eq_false hd] at HD
          have HF := Lib.hid (mergeAll_no (a := l0) (b := l1) (fun h => hd h.2.1.2))
          clear ha hb hc hd
          go_enter Try.func25, Try.ntmps25
          go_wp2_with fail
          refine (HA.out _ HV0.out).mono ?_
          rintro e w1 ⟨rfl, hb⟩
          have HV01 := Lib.hid (HV0.out.below hb)
          have HV11 := Lib.hid (HV1.out.below hb)
          have HBL1 := Lib.hid (hb)
          clear hb HA HV0 HV1
          go_wp2_with fail
          refine (HB.out _ HV11.out).mono ?_
          rintro e w2 ⟨rfl, hb⟩
          have HV02 := Lib.hid (HV01.out.below hb)
          have HV12 := Lib.hid (HV11.out.below hb)
          have HBL2 := Lib.hid (HBL1.out.trans (hb.mono HBL1.out.size))
          clear hb HB HV01 HV11 HBL1
          go_wp2_with fail
          refine (HC.out _ HV02.out).mono ?_
          rintro e w3 ⟨rfl, hb⟩
          have HV03 := Lib.hid (HV02.out.below hb)
          have HV13 := Lib.hid (HV12.out.below hb)
          have HBL3 := Lib.hid (HBL2.out.trans (hb.mono HBL2.out.size))
          clear hb HC HV02 HV12 HBL2
          go_wp2_with fail
          refine (HD.out _ HV13.out).mono ?_
          rintro e w4 ⟨rfl, hb⟩
          have HV04 := Lib.hid (HV03.out.below hb)
          have HV14 := Lib.hid (HV13.out.below hb)
          have HBL4 := Lib.hid (HBL3.out.trans (hb.mono HBL3.out.size))
          clear hb HD HV03 HV13 HBL3
          have HRES : Hid (Ret1C (mergeAll l0 l1) w (.returned (.tuple #[.slice (some ⟨w4.heap.size, 0, none⟩) 0 0, .int .i64 0, .bool false])) (w4.alloc (.cells #[] 50))) := Lib.hid (by rw [HF.out]; exact Ret1C.none w w4 HBL4.out)
          go_wp2_with fail
          go_ret3
          exact HRES.out
      · rw [decide_eq_false hc] at HC
        have HF := Lib.hid (mergeAll_no (a := l0) (b := l1) (fun h => hc h.1.2))
        clear ha hb hc HD
        go_enter Try.func25, Try.ntmps25
        go_wp2_with fail
        refine (HA.out _ HV0.out).mono ?_
        rintro e w1 ⟨rfl, hb⟩
        have HV01 := Lib.hid (HV0.out.below hb)
        have HV11 := Lib.hid (HV1.out.below hb)
        have HBL1 := Lib.hid (hb)
        clear hb HA HV0 HV1
        go_wp2_with fail
        refine (HB.out _ HV11.out).mono ?_
        rintro e w2 ⟨rfl, hb⟩
        have HV02 := Lib.hid (HV01.out.below hb)
        have HV12 := Lib.hid (HV11.out.below hb)
        have HBL2 := Lib.hid (HBL1.out.trans (hb.mono HBL1.out.size))
        clear hb HB HV01 HV11 HBL1
        go_wp2_with fail
        refine (HC.out _ HV02.out).mono ?_
        rintro e w3 ⟨rfl, hb⟩
        have HV03 := Lib.hid (HV02.out.below hb)
        have HV13 := Lib.hid (HV12.out.below hb)
        have HBL3 := Lib.hid (HBL2.out.trans (hb.mono HBL2.out.size))
        clear hb HC HV02 HV12 HBL2
        have HRES : Hid (Ret1C (mergeAll l0 l1) w (.returned (.tuple #[.slice (some ⟨w3.heap.size, 0, none⟩) 0 0, .int .i64 0, .bool false])) (w3.alloc (.cells #[] 50))) := Lib.hid (by rw [HF.out]; exact Ret1C.none w w3 HBL3.out)
        go_wp2_with fail
        go_ret3
        exact HRES.out
    · rw [decide_eq_false hb] at HB
      have HF := Lib.hid (mergeAll_no (a := l0) (b := l1) (fun h => hb h.2.1.1))
      clear ha hb HC HD
      go_enter Try.func25, Try.ntmps25
      go_wp2_with fail
      refine (HA.out _ HV0.out).mono ?_
      rintro e w1 ⟨rfl, hb⟩
      have HV01 := Lib.hid (HV0.out.below hb)
      have HV11 := Lib.hid (HV1.out.below hb)
      have HBL1 := Lib.hid (hb)
      clear hb HA HV0 HV1
      go_wp2_with fail
      refine (HB.out _ HV11.out).mono ?_
      rintro e w2 ⟨rfl, hb⟩
      have HV02 := Lib.hid (HV01.out.below hb)
      have HV12 := Lib.hid (HV11.out.below hb)
      have HBL2 := Lib.hid (HBL1.out.trans (hb.mono HBL1.out.size))
      clear hb HB HV01 HV11 HBL1
      have HRES : Hid (Ret1C (mergeAll l0 l1) w (.returned (.tuple #[.slice (some ⟨w2.heap.size, 0, none⟩) 0 0, .int .i64 0, .bool false])) (w2.alloc (.cells #[] 50))) := Lib.hid (by rw [HF.out]; exact Ret1C.none w w2 HBL2.out)
      go_wp2_with fail
      go_ret3
      exact HRES.out
  · rw [decide_eq_false ha] at HA
    have HF := Lib.hid (mergeAll_no (a := l0) (b := l1) (fun h => ha h.1.1))
    clear ha HB HC HD
    go_enter Try.func25, Try.ntmps25
    go_wp2_with fail
    refine (HA.out _ HV0.out).mono ?_
    rintro e w1 ⟨rfl, hb⟩
    have HV01 := Lib.hid (HV0.out.below hb)
    have HV11 := Lib.hid (HV1.out.below hb)
    have HBL1 := Lib.hid (hb)
    clear hb HA HV0 HV1
    have HRES : Hid (Ret1C (mergeAll l0 l1) w (.returned (.tuple #[.slice (some ⟨w1.heap.size, 0, none⟩) 0 0, .int .i64 0, .bool false])) (w1.alloc (.cells #[] 50))) := Lib.hid (by rw [HF.out]; exact Ret1C.none w w1 HBL1.out)
    go_wp2_with fail
    go_ret3
    exact HRES.out

end Go.Proofs.Ytnjabdlhgmaeiaa
