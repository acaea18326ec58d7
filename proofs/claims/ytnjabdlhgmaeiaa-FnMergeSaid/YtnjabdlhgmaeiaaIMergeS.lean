/- The program's MergeSorted, by its contract. -/
import Derived.Test.YtnjabdlhgmaeiaaMgI
import Derived.Test.YtnjabdlhgmaeiaaMgAll
import Derived.Test.YtnjabdlhgmaeiaaAscR
namespace Go.Proofs.Ytnjabdlhgmaeiaa
open Go.RowKit Mg
set_option linter.unusedVariables false

set_option maxRecDepth 100000 in
set_option maxHeartbeats 8000000 in
theorem implMergeS_any (b0 o0 c0 : Nat) (l0 : List (Int × Int)) (b1 o1 c1 : Nat) (l1 : List (Int × Int)) (w : World) (hv0 : FlatAt w (.slice (some ⟨b0, o0, none⟩) l0.length c0) l0.length (recs l0)) (hn0 : l0.length ≤ 1048576) (hv1 : FlatAt w (.slice (some ⟨b1, o1, none⟩) l1.length c1) l1.length (recs l1)) (hn1 : l1.length ≤ 1048576) :
    Calls Try.prog 24 #[.slice (some ⟨b0, o0, none⟩) l0.length c0, .slice (some ⟨b1, o1, none⟩) l1.length c1] w (Ret1C (mergeAll l0 l1) w) := by

  have HV0 := Lib.hid hv0
  have HV1 := Lib.hid hv1
  clear hv0 hv1
  have HA := Lib.hid (fun W (h : FlatAt W (.slice (some ⟨b0, o0, none⟩) l0.length c0) l0.length (recs l0)) => isSortedRecords_any _ l0 W h hn0)
  have HB := Lib.hid (fun W (h : FlatAt W (.slice (some ⟨b1, o1, none⟩) l1.length c1) l1.length (recs l1)) => isSortedRecords_any _ l1 W h hn1)
  by_cases h0 : OkR l0 ∧ Mg.Asc l0
  · rw [decide_eq_true h0] at HA
    by_cases h1 : OkR l1 ∧ Mg.Asc l1
    · rw [decide_eq_true h1] at HB
      by_cases h2 : l0.length + l1.length ≤ 64
      · have HF := Lib.hid (mergeAll_yes (a := l0) (b := l1) ⟨h0, h1, h2⟩)
        have h2z : ¬ (64 : Int) < (l0.length : Int) + (l1.length : Int) := by omega
        have h2d : decide ((64 : Int) < (l0.length : Int) + (l1.length : Int)) = false := decide_eq_false h2z
        clear h0 h1
        go_enter Try.func24, Try.ntmps24
        go_wp2_with fail
        refine (HA.out _ HV0.out).mono ?_
        rintro e w1 ⟨rfl, hb⟩
        have HV01 := Lib.hid (HV0.out.below hb)
        have HV11 := Lib.hid (HV1.out.below hb)
        have HBL1 := Lib.hid (hb)
        clear hb HA HV0 HV1
        go_wp2_with fail
        refine (HB.out _ HV11.out).mono ?_
        rintro e w2 ⟨rfl, hb⟩
        have HV02 := Lib.hid (HV01.out.below hb)
        have HV12 := Lib.hid (HV11.out.below hb)
        have HBL2 := Lib.hid (HBL1.out.trans (hb.mono HBL1.out.size))
        clear hb HB HV01 HV11 HBL1
        go_wp2_with fail
        obtain ⟨W, hW⟩ : ∃ W, W = w2.alloc (.cells #[.int .i64 0] 88) := ⟨_, rfl⟩
        have hbW : Below w2.heap.size w2 W := by rw [hW]; exact (Below.refl _ _).alloc (Nat.le_refl _) _
        have hM : Merg w2.heap.size 0 W := by rw [hW]; exact CellRow.of_row (heap_alloc_new w2 _)
        have hS0 : Src w2.heap.size W b0 o0 c0 l0 := (Src.of_flat HV02.out (Nat.le_refl _)).but (But.ofBelow hbW (Nat.le_refl _))
        have hS1 : Src w2.heap.size W b1 o1 c1 l1 := (Src.of_flat HV12.out (Nat.le_refl _)).but (But.ofBelow hbW (Nat.le_refl _))
        have HMG := Lib.hid (merge_any w2.heap.size 0 b0 o0 c0 b1 o1 c1 l0 l1 W hM hS0 hS1 (by omega) (by omega))
        have HBW := Lib.hid (HBL2.out.trans (hbW.mono HBL2.out.size))
        have hlow := HBL2.out.size
        clear hbW hM hS0 hS1 HV02 HV12 HBL2
        rw [← hW]
        clear hW
        obtain ⟨R, hR⟩ : ∃ R, R = mg l0 l1 := ⟨_, rfl⟩
        rw [← hR] at HMG HF
        clear hR
        refine (HMG.out).mono ?_
        rintro e w3 ⟨g, c, rfl, hc, hg, hrow, hm, hbut⟩
        obtain ⟨hc0, _⟩ := hm.c0
        rw [Nat.zero_add] at hc0
        have HRES : Hid (∀ n, Ret1C (mergeAll l0 l1) w (.returned (.tuple #[.slice (some ⟨g, 0, none⟩) R.1.length c, .int .i64 (R.2 : Nat), .bool true])) (w3.drewN n)) := Lib.hid (fun n => by
          rw [HF.out]
          exact ⟨g, c, rfl, hc, Nat.le_trans HBW.out.size hg, hrow.same rfl (Nat.le_refl _), (HBW.out.trans (hbut.below hlow HBW.out.size)).trans ⟨rfl, rfl, rfl, Nat.le_refl _, fun _ _ => rfl⟩⟩)
        clear HMG hc hg hrow hm hbut HBW HF
        go_wp2_with fail
        go_quiet (fail)
        go_wp2_with fail
        go_ret3
        exact HRES.out _
      · have HF := Lib.hid (mergeAll_no (a := l0) (b := l1) (fun h => h2 h.2.2))
        have h2z : (64 : Int) < (l0.length : Int) + (l1.length : Int) := by omega
        have h2d : decide ((64 : Int) < (l0.length : Int) + (l1.length : Int)) = true := decide_eq_true h2z
        clear h0 h1
        go_enter Try.func24, Try.ntmps24
        go_wp2_with fail
        refine (HA.out _ HV0.out).mono ?_
        rintro e w1 ⟨rfl, hb⟩
        have HV01 := Lib.hid (HV0.out.below hb)
        have HV11 := Lib.hid (HV1.out.below hb)
        have HBL1 := Lib.hid (hb)
        clear hb HA HV0 HV1
        go_wp2_with fail
        refine (HB.out _ HV11.out).mono ?_
        rintro e w2 ⟨rfl, hb⟩
        have HV02 := Lib.hid (HV01.out.below hb)
        have HV12 := Lib.hid (HV11.out.below hb)
        have HBL2 := Lib.hid (HBL1.out.trans (hb.mono HBL1.out.size))
        clear hb HB HV01 HV11 HBL1
        have HRES : Hid (Ret1C (mergeAll l0 l1) w (.returned (.tuple #[.slice (some ⟨w2.heap.size, 0, none⟩) 0 0, .int .i64 0, .bool false])) (w2.alloc (.cells #[] 50))) := Lib.hid (by rw [HF.out]; exact Ret1C.none w w2 HBL2.out)
        go_wp2_with fail
        go_ret3
        exact HRES.out
    · rw [decide_eq_false h1] at HB
      have HF := Lib.hid (mergeAll_no (a := l0) (b := l1) (fun h => h1 h.2.1))
      clear h0 h1
      go_enter Try.func24, Try.ntmps24
      go_wp2_with fail
      refine (HA.out _ HV0.out).mono ?_
      rintro e w1 ⟨rfl, hb⟩
      have HV01 := Lib.hid (HV0.out.below hb)
      have HV11 := Lib.hid (HV1.out.below hb)
      have HBL1 := Lib.hid (hb)
      clear hb HA HV0 HV1
      go_wp2_with fail
      refine (HB.out _ HV11.out).mono ?_
      rintro e w2 ⟨rfl, hb⟩
      have HV02 := Lib.hid (HV01.out.below hb)
      have HV12 := Lib.hid (HV11.out.below hb)
      have HBL2 := Lib.hid (HBL1.out.trans (hb.mono HBL1.out.size))
      clear hb HB HV01 HV11 HBL1
      have HRES : Hid (Ret1C (mergeAll l0 l1) w (.returned (.tuple #[.slice (some ⟨w2.heap.size, 0, none⟩) 0 0, .int .i64 0, .bool false])) (w2.alloc (.cells #[] 50))) := Lib.hid (by rw [HF.out]; exact Ret1C.none w w2 HBL2.out)
      go_wp2_with fail
      go_ret3
      exact HRES.out
  · rw [decide_eq_false h0] at HA
    have HF := Lib.hid (mergeAll_no (a := l0) (b := l1) (fun h => h0 h.1))
    clear h0 HB
    go_enter Try.func24, Try.ntmps24
    go_wp2_with fail
    refine (HA.out _ HV0.out).mono ?_
    rintro e w1 ⟨rfl, hb⟩
    have HV01 := Lib.hid (HV0.out.below hb)
    have HV11 := Lib.hid (HV1.out.below hb)
    have HBL1 := Lib.hid (hb)
    clear hb HA HV0 HV1
    have HRES : Hid (Ret1C (mergeAll l0 l1) w (.returned (.tuple #[.slice (some ⟨w1.heap.size, 0, none⟩) 0 0, .int .i64 0, .bool false])) (w1.alloc (.cells #[] 50))) := Lib.hid (by rw [HF.out]; exact Ret1C.none w w1 HBL1.out)
    go_wp2_with fail
    go_ret3
    exact HRES.out

end Go.Proofs.Ytnjabdlhgmaeiaa
