/- FnExactBuildMergeTree returns true at every input. No condition. -/
import Derived.Test.YtgfdpjmhdijdiaaRows
import Derived.WalkKit
import Derived.ProofKit
import Derived.OpenShut
import Derived.ShutString
import Derived.ChangeOld
import Derived.Below
import Derived.SliceStrings
import Derived.Test.YtgfdpjmhdijdiaaHead
import Derived.Test.YtgfdpjmhdijdiaaIntS
import Derived.Test.YtgfdpjmhdijdiaaIntSE
import Derived.Test.YtgfdpjmhdijdiaaIntSM
import Derived.Test.YtgfdpjmhdijdiaaOpenI
import Derived.Test.YtgfdpjmhdijdiaaMtH
import Derived.Test.YtgfdpjmhdijdiaaRetMt
namespace Go.Proofs.Ytgfdpjmhdijdiaa.fnExactBuildMergeTree
open Go.ChangeShapes Go.WideShapes Go.ChangeAt Go.RowKit
open Go.ChangeMaps (open_string shut_string)
set_option linter.unusedVariables false

theorem own : ownKnob Try.prog.godebug = none := by kernel_rfl
theorem laidOut : laidOutB Try.prog = true := by kernel_rfl

set_option maxRecDepth 100000 in
set_option maxHeartbeats 4000000 in
theorem walkS (v0 : Value) (l0 : List Int) (w : World) (w0 : FlatAt w v0 l0.length (ints l0) ∧ l0.length ≤ maxLen) (hr0 : (bmF l0).1 ≠ []) :
    Calls Try.prog 16 #[v0] w fun e w' => e = .returned (.bool true) ∧ Below w.heap.size w w' := by
  have hv0 := w0.1
  obtain ⟨s0, c0, rfl, hx0, hx1⟩ := w0.1
  clear hx0 hx1
  have hn0 := w0.2
  unfold maxLen at hn0
  clear w0
  have HV0 := Lib.hid hv0
  clear hv0
  obtain ⟨R, hR⟩ : ∃ R, R = bmF l0 := ⟨_, rfl⟩
  have HS : Hid (∀ (x0 o0 k0 : Nat) (W : World) (h0 : FlatAt W (.slice (some ⟨x0, o0, none⟩) l0.length k0) l0.length (ints l0)) (b0 : l0.length ≤ 1048576), Calls Try.prog 64 #[(.slice (some ⟨x0, o0, none⟩) l0.length k0)] W (RetMT2 R W)) := Lib.hid (fun x0 o0 k0 W h0 b0 => by rw [hR]; exact (fun x0 o0 k0 l0 W h0 b0 hr => (specBm_any x0 o0 k0 l0 W h0 b0).mono fun _ _ q => q.own hr) x0 o0 k0 l0 W h0 b0 hr0)
  have HI : Hid (∀ (x0 o0 k0 : Nat) (W : World) (h0 : FlatAt W (.slice (some ⟨x0, o0, none⟩) l0.length k0) l0.length (ints l0)) (b0 : l0.length ≤ 1048576), Calls Try.prog 65 #[(.slice (some ⟨x0, o0, none⟩) l0.length k0)] W (RetMT2 R W)) := Lib.hid (fun x0 o0 k0 W h0 b0 => by rw [hR]; exact (fun x0 o0 k0 l0 W h0 b0 hr => ((fun x o k l W h b => implBm_any sortPart x o k l W h b) x0 o0 k0 l0 W h0 b0).mono fun _ _ q => q.own hr) x0 o0 k0 l0 W h0 b0 hr0)
  have HLEN : Hid (∀ (b0 : l0.length ≤ 1048576), SmallSS R.1) := Lib.hid (fun b0 => by rw [hR]; exact (bmF_small l0))
  clear hR hr0
  obtain ⟨R1, R2⟩ := R
  by_cases hl0 : l0.length ≤ 1048576
  case neg =>
    clear HS HI HLEN
    have hg0 : (1048576 : Int) < l0.length := by omega
    go_enter Try.func16, Try.ntmps16
    go_wp2_with fail
    go_ret
    exact ⟨rfl, Below.refl _ _⟩
  have HLE := Lib.hid (HLEN.out hl0)
  clear HLEN
  have hR1 : R1.length ≤ 1048576 := HLE.out.1
  have hRT : offs R1 R1.length ≤ 1048576 := HLE.out.2.2
  have HRX : Hid (∀ (j : Nat) x, R1[j]? = some x → x.length ≤ 1048576) := Lib.hid HLE.out.2.1
  clear HLE
  have B0 : Hid (Below w.heap.size w w) := Lib.hid (Below.refl _ _)
  go_enter Try.func16, Try.ntmps16
  go_wp2_with fail
  refine (toIntS_any _ l0 w (HV0.out.below B0.out) hl0).mono ?_
  rintro e w_1 ⟨rfl, hr, hb⟩
  have S0 := Lib.hid (CellRow.of_row hr)
  have BN := Lib.hid (B0.out.trans (hb.mono B0.out.size))
  clear B0
  have B1 := BN
  clear BN
  clear hr hb
  go_wp2_with fail
  refine (HS.out _ _ _ w_1 (S0.out.flat (Nat.le_refl _)) hl0).mono ?_
  rintro e w_2 ⟨gw, cgw, Ggw, Cgw, rfl, hcgw, hrow, hb⟩
  simp only at hcgw hrow
  have logw : w.heap.size ≤ w_1.heap.size := B1.out.size
  have ltgwS0 := S0.out.1
  obtain ⟨lgw, hle⟩ : ∃ x, x = w_1.heap.size := ⟨_, rfl⟩
  rw [← hle] at hrow logw ltgwS0
  clear hle
  obtain ⟨hgw, hle⟩ : ∃ x, x = w_2.heap.size := ⟨_, rfl⟩
  rw [← hle] at hrow
  clear hle
  have Rgw := Lib.hid hrow
  have S0z := Lib.hid (S0.out.below hb S0.out.1)
  clear S0
  have S0 := S0z
  clear S0z
  have BN := Lib.hid (B1.out.trans (hb.mono B1.out.size))
  clear B1
  have B2 := BN
  clear BN
  clear hrow hb
  obtain ⟨w_3, hWN, hxN, hzN, hb⟩ := box1 w_2 77 (.slice (some ⟨gw, 0, none⟩) R1.length cgw)
  have ltVgwS0 := S0.out.1
  have ltVgwRgw := Rgw.out.top
  have S0z := Lib.hid (S0.out.below hb S0.out.1)
  have Rgwz := Lib.hid (Rgw.out.below hb Rgw.out.top)
  clear S0
  have S0 := S0z
  clear S0z
  clear Rgw
  have Rgw := Rgwz
  clear Rgwz
  have BN := Lib.hid (B2.out.trans (hb.mono B2.out.size))
  clear B2
  have B3 := BN
  clear BN
  have Vgw := Lib.hid hxN
  have hcVgw := Boxed.cell Vgw.out
  have hWrVgw := hWN.symm
  clear hWN hxN hzN hb
  skip
  clear S0
  clear HS
  go_wp2_with fail
  refine (toIntS_any _ l0 w_3 (HV0.out.below B3.out) hl0).mono ?_
  rintro e w_4 ⟨rfl, hr, hb⟩
  have X0 := Lib.hid (CellRow.of_row hr)
  have lox0 : w.heap.size ≤ w_3.heap.size := B3.out.size
  have ltx0Rgw := Rgw.out.top
  have ltx0Vgw := (Boxed.lt Vgw.out)
  have Vgwz := Lib.hid (boxed_below Vgw.out hb (Boxed.lt Vgw.out))
  have Rgwz := Lib.hid (Rgw.out.below hb Rgw.out.top)
  clear Rgw
  have Rgw := Rgwz
  clear Rgwz
  clear Vgw
  have Vgw := Vgwz
  clear Vgwz
  clear hcVgw
  have hcVgw := Boxed.cell Vgw.out
  have BN := Lib.hid (B3.out.trans (hb.mono B3.out.size))
  clear B3
  have B4 := BN
  clear BN
  clear hr hb
  obtain ⟨gx0, hgxe⟩ : ∃ gx, gx = w_3.heap.size := ⟨_, rfl⟩
  rw [← hgxe] at X0 lox0 ltx0Rgw ltx0Vgw ⊢
  clear hgxe
  go_wp2_with fail
  refine (HI.out _ _ _ w_4 (X0.out.flat (Nat.le_refl _)) hl0).mono ?_
  rintro e w_5 ⟨g, cg, Gg, Cg, rfl, hcg, hrow, hb⟩
  simp only at hcg hrow
  have log : w.heap.size ≤ w_4.heap.size := B4.out.size
  have ltgRgw := Rgw.out.top
  have ltgVgw := (Boxed.lt Vgw.out)
  have ltgX0 := X0.out.1
  obtain ⟨lg, hle⟩ : ∃ x, x = w_4.heap.size := ⟨_, rfl⟩
  rw [← hle] at hrow log ltgRgw ltgVgw ltgX0
  clear hle
  obtain ⟨hg, hle⟩ : ∃ x, x = w_5.heap.size := ⟨_, rfl⟩
  rw [← hle] at hrow
  clear hle
  have Rg := Lib.hid hrow
  have Vgwz := Lib.hid (boxed_below Vgw.out hb (Boxed.lt Vgw.out))
  have Rgwz := Lib.hid (Rgw.out.below hb Rgw.out.top)
  have X0z := Lib.hid (X0.out.below hb X0.out.1)
  clear Rgw
  have Rgw := Rgwz
  clear Rgwz
  clear Vgw
  have Vgw := Vgwz
  clear Vgwz
  clear hcVgw
  have hcVgw := Boxed.cell Vgw.out
  clear X0
  have X0 := X0z
  clear X0z
  have BN := Lib.hid (B4.out.trans (hb.mono B4.out.size))
  clear B4
  have B5 := BN
  clear BN
  clear hrow hb
  obtain ⟨w_6, hWN, hxN, hzN, hb⟩ := box1 w_5 77 (.slice (some ⟨g, 0, none⟩) R1.length cg)
  have ltVgRgw := Rgw.out.top
  have ltVgVgw := (Boxed.lt Vgw.out)
  have ltVgX0 := X0.out.1
  have ltVgRg := Rg.out.top
  have Vgwz := Lib.hid (boxed_below Vgw.out hb (Boxed.lt Vgw.out))
  have Rgwz := Lib.hid (Rgw.out.below hb Rgw.out.top)
  have X0z := Lib.hid (X0.out.below hb X0.out.1)
  have Rgz := Lib.hid (Rg.out.below hb Rg.out.top)
  clear Rgw
  have Rgw := Rgwz
  clear Rgwz
  clear Vgw
  have Vgw := Vgwz
  clear Vgwz
  clear hcVgw
  have hcVgw := Boxed.cell Vgw.out
  clear X0
  have X0 := X0z
  clear X0z
  clear Rg
  have Rg := Rgz
  clear Rgz
  have BN := Lib.hid (B5.out.trans (hb.mono B5.out.size))
  clear B5
  have B6 := BN
  clear BN
  have Vg := Lib.hid hxN
  have hcVg := Boxed.cell Vg.out
  have hWrVg := hWN.symm
  clear hWN hxN hzN hb
  skip
  go_wp2_with fail
  refine (eqMergeTree_yes _ _ R1 w_6 (Rg.out.rowsI hcg) (Rgw.out.rowsI hcgw) hR1 HRX.out).mono ?_
  rintro e w_7 ⟨rfl, hb⟩
  have Vgwz := Lib.hid (boxed_below Vgw.out hb (Boxed.lt Vgw.out))
  have Vgz := Lib.hid (boxed_below Vg.out hb (Boxed.lt Vg.out))
  have Rgwz := Lib.hid (Rgw.out.below hb Rgw.out.top)
  have X0z := Lib.hid (X0.out.below hb X0.out.1)
  have Rgz := Lib.hid (Rg.out.below hb Rg.out.top)
  clear Rgw
  have Rgw := Rgwz
  clear Rgwz
  clear Vgw
  have Vgw := Vgwz
  clear Vgwz
  clear hcVgw
  have hcVgw := Boxed.cell Vgw.out
  clear X0
  have X0 := X0z
  clear X0z
  clear Rg
  have Rg := Rgz
  clear Rgz
  clear Vg
  have Vg := Vgz
  clear Vgz
  clear hcVg
  have hcVg := Boxed.cell Vg.out
  have BN := Lib.hid (B6.out.trans (hb.mono B6.out.size))
  clear B6
  have B7 := BN
  clear BN
  clear hb
  go_wp2_with fail
  refine (toIntS_any _ l0 w_7 (HV0.out.below B7.out) hl0).mono ?_
  rintro e w_8 ⟨rfl, hr, hb⟩
  have Y := Lib.hid (CellRow.of_row hr)
  have Vgwz := Lib.hid (boxed_below Vgw.out hb (Boxed.lt Vgw.out))
  have Vgz := Lib.hid (boxed_below Vg.out hb (Boxed.lt Vg.out))
  have Rgwz := Lib.hid (Rgw.out.below hb Rgw.out.top)
  have X0z := Lib.hid (X0.out.below hb X0.out.1)
  have Rgz := Lib.hid (Rg.out.below hb Rg.out.top)
  clear Rgw
  have Rgw := Rgwz
  clear Rgwz
  clear Vgw
  have Vgw := Vgwz
  clear Vgwz
  clear hcVgw
  have hcVgw := Boxed.cell Vgw.out
  clear X0
  have X0 := X0z
  clear X0z
  clear Rg
  have Rg := Rgz
  clear Rgz
  clear Vg
  have Vg := Vgz
  clear Vgz
  clear hcVg
  have hcVg := Boxed.cell Vg.out
  have BN := Lib.hid (B7.out.trans (hb.mono B7.out.size))
  clear B7
  have B8 := BN
  clear BN
  clear hr hb
  go_wp2_with fail
  refine (eqIntS_yes _ _ l0 w_8 (X0.out.flat (Nat.le_refl _)) (Y.out.flat (Nat.le_refl _)) hl0).mono ?_
  rintro e w_9 ⟨rfl, hb⟩
  have Vgwz := Lib.hid (boxed_below Vgw.out hb (Boxed.lt Vgw.out))
  have Vgz := Lib.hid (boxed_below Vg.out hb (Boxed.lt Vg.out))
  have Rgwz := Lib.hid (Rgw.out.below hb Rgw.out.top)
  have X0z := Lib.hid (X0.out.below hb X0.out.1)
  have Rgz := Lib.hid (Rg.out.below hb Rg.out.top)
  have Yz := Lib.hid (Y.out.below hb Y.out.1)
  clear Rgw
  have Rgw := Rgwz
  clear Rgwz
  clear Vgw
  have Vgw := Vgwz
  clear Vgwz
  clear hcVgw
  have hcVgw := Boxed.cell Vgw.out
  clear X0
  have X0 := X0z
  clear X0z
  clear Rg
  have Rg := Rgz
  clear Rgz
  clear Vg
  have Vg := Vgz
  clear Vgz
  clear hcVg
  have hcVg := Boxed.cell Vg.out
  clear Y
  have Y := Yz
  clear Yz
  have BN := Lib.hid (B8.out.trans (hb.mono B8.out.size))
  clear B8
  have B9 := BN
  clear BN
  clear hb
  go_wp2_with fail
  clear Y
  refine (markIntS_any gx0 l0.length l0 (1) w_9 X0.out hl0 (by omega)).mono ?_
  rintro e w_10 ⟨rfl, _, hb⟩
  clear X0
  have Vgwz := Lib.hid ((hb.block _ (Boxed.lt Vgw.out) (by omega)).trans Vgw.out)
  have Vgz := Lib.hid ((hb.block _ (Boxed.lt Vg.out) (by omega)).trans Vg.out)
  have Rgwz := Lib.hid (Rgw.out.but hb (by omega))
  have Rgz := Lib.hid (Rg.out.but hb (by omega))
  clear Rgw
  have Rgw := Rgwz
  clear Rgwz
  clear Vgw
  have Vgw := Vgwz
  clear Vgwz
  clear hcVgw
  have hcVgw := Boxed.cell Vgw.out
  clear Rg
  have Rg := Rgz
  clear Rgz
  clear Vg
  have Vg := Vgz
  clear Vgz
  clear hcVg
  have hcVg := Boxed.cell Vg.out
  have BN := Lib.hid (B9.out.trans (hb.below lox0 B9.out.size))
  clear B9
  have B10 := BN
  clear BN
  clear hb
  go_wp2_with fail
  refine (eqMergeTree_yes _ _ R1 w_10 (Rg.out.rowsI hcg) (Rgw.out.rowsI hcgw) hR1 HRX.out).mono ?_
  rintro e w_11 ⟨rfl, hb⟩
  have Vgwz := Lib.hid (boxed_below Vgw.out hb (Boxed.lt Vgw.out))
  have Vgz := Lib.hid (boxed_below Vg.out hb (Boxed.lt Vg.out))
  have Rgwz := Lib.hid (Rgw.out.below hb Rgw.out.top)
  have Rgz := Lib.hid (Rg.out.below hb Rg.out.top)
  clear Rgw
  have Rgw := Rgwz
  clear Rgwz
  clear Vgw
  have Vgw := Vgwz
  clear Vgwz
  clear hcVgw
  have hcVgw := Boxed.cell Vgw.out
  clear Rg
  have Rg := Rgz
  clear Rgz
  clear Vg
  have Vg := Vgz
  clear Vgz
  clear hcVg
  have hcVg := Boxed.cell Vg.out
  have BN := Lib.hid (B10.out.trans (hb.mono B10.out.size))
  clear B10
  have B11 := BN
  clear BN
  clear hb
  go_wp2_with fail
  refine (markMergeTree_any g lg hg cg R1 Gg Cg 1 w_11 Rg.out hR1 hRT (by omega)).mono ?_
  rintro e w_12 ⟨rfl, hr, hb⟩
  clear Rg
  have Vgwz := Lib.hid ((hb.block _ (Boxed.lt Vgw.out) (by omega)).trans Vgw.out)
  have Vgz := Lib.hid ((hb.block _ (Boxed.lt Vg.out) (by omega)).trans Vg.out)
  have Rgwz := Lib.hid (Rgw.out.within hb (by omega))
  clear Rgw
  have Rgw := Rgwz
  clear Rgwz
  clear Vgw
  have Vgw := Vgwz
  clear Vgwz
  clear hcVgw
  have hcVgw := Boxed.cell Vgw.out
  clear Vg
  have Vg := Vgz
  clear Vgz
  clear hcVg
  have hcVg := Boxed.cell Vg.out
  have BN := Lib.hid (B11.out.trans (hb.below log B11.out.size))
  clear B11
  have B12 := BN
  clear BN
  have Rg := Lib.hid hr
  clear hr hb
  go_wp2_with fail
  refine (heldMergeTree_any g lg hg cg R1 Gg Cg 1 w_12 Rg.out hR1 hRT (by omega)).mono ?_
  rintro e w_13 ⟨rfl, hb⟩
  have Vgwz := Lib.hid (boxed_below Vgw.out hb (Boxed.lt Vgw.out))
  have Vgz := Lib.hid (boxed_below Vg.out hb (Boxed.lt Vg.out))
  have Rgwz := Lib.hid (Rgw.out.below hb Rgw.out.top)
  have Rgz := Lib.hid (Rg.out.below hb Rg.out.top)
  clear Rgw
  have Rgw := Rgwz
  clear Rgwz
  clear Vgw
  have Vgw := Vgwz
  clear Vgwz
  clear hcVgw
  have hcVgw := Boxed.cell Vgw.out
  clear Vg
  have Vg := Vgz
  clear Vgz
  clear hcVg
  have hcVg := Boxed.cell Vg.out
  clear Rg
  have Rg := Rgz
  clear Rgz
  have BN := Lib.hid (B12.out.trans (hb.mono B12.out.size))
  clear B12
  have B13 := BN
  clear BN
  clear hb
  go_wp2_with fail
  refine (toIntS_any _ l0 w_13 (HV0.out.below B13.out) hl0).mono ?_
  rintro e w_14 ⟨rfl, hr, hb⟩
  have Z0 := Lib.hid (CellRow.of_row hr)
  have Vgwz := Lib.hid (boxed_below Vgw.out hb (Boxed.lt Vgw.out))
  have Vgz := Lib.hid (boxed_below Vg.out hb (Boxed.lt Vg.out))
  have Rgwz := Lib.hid (Rgw.out.below hb Rgw.out.top)
  have Rgz := Lib.hid (Rg.out.below hb Rg.out.top)
  clear Rgw
  have Rgw := Rgwz
  clear Rgwz
  clear Vgw
  have Vgw := Vgwz
  clear Vgwz
  clear hcVgw
  have hcVgw := Boxed.cell Vgw.out
  clear Vg
  have Vg := Vgz
  clear Vgz
  clear hcVg
  have hcVg := Boxed.cell Vg.out
  clear Rg
  have Rg := Rgz
  clear Rgz
  have BN := Lib.hid (B13.out.trans (hb.mono B13.out.size))
  clear B13
  have B14 := BN
  clear BN
  clear hr hb
  go_wp2_with fail
  refine (HI.out _ _ _ w_14 (Z0.out.flat (Nat.le_refl _)) hl0).mono ?_
  rintro e w_15 ⟨gh, cgh, Ggh, Cgh, rfl, hcgh, hrow, hb⟩
  simp only at hcgh hrow
  have logh : w.heap.size ≤ w_14.heap.size := B14.out.size
  have ltghRgw := Rgw.out.top
  have ltghVgw := (Boxed.lt Vgw.out)
  have ltghVg := (Boxed.lt Vg.out)
  have ltghRg := Rg.out.top
  have ltghZ0 := Z0.out.1
  obtain ⟨lgh, hle⟩ : ∃ x, x = w_14.heap.size := ⟨_, rfl⟩
  rw [← hle] at hrow logh ltghRgw ltghVgw ltghVg ltghRg ltghZ0
  clear hle
  obtain ⟨hgh, hle⟩ : ∃ x, x = w_15.heap.size := ⟨_, rfl⟩
  rw [← hle] at hrow
  clear hle
  have Rgh := Lib.hid hrow
  have Vgwz := Lib.hid (boxed_below Vgw.out hb (Boxed.lt Vgw.out))
  have Vgz := Lib.hid (boxed_below Vg.out hb (Boxed.lt Vg.out))
  have Rgwz := Lib.hid (Rgw.out.below hb Rgw.out.top)
  have Rgz := Lib.hid (Rg.out.below hb Rg.out.top)
  have Z0z := Lib.hid (Z0.out.below hb Z0.out.1)
  clear Rgw
  have Rgw := Rgwz
  clear Rgwz
  clear Vgw
  have Vgw := Vgwz
  clear Vgwz
  clear hcVgw
  have hcVgw := Boxed.cell Vgw.out
  clear Vg
  have Vg := Vgz
  clear Vgz
  clear hcVg
  have hcVg := Boxed.cell Vg.out
  clear Rg
  have Rg := Rgz
  clear Rgz
  clear Z0
  have Z0 := Z0z
  clear Z0z
  have BN := Lib.hid (B14.out.trans (hb.mono B14.out.size))
  clear B14
  have B15 := BN
  clear BN
  clear hrow hb
  obtain ⟨w_16, hWN, hxN, hzN, hb⟩ := box1 w_15 77 (.slice (some ⟨gh, 0, none⟩) R1.length cgh)
  have ltVghRgw := Rgw.out.top
  have ltVghVgw := (Boxed.lt Vgw.out)
  have ltVghVg := (Boxed.lt Vg.out)
  have ltVghRg := Rg.out.top
  have ltVghZ0 := Z0.out.1
  have ltVghRgh := Rgh.out.top
  have Vgwz := Lib.hid (boxed_below Vgw.out hb (Boxed.lt Vgw.out))
  have Vgz := Lib.hid (boxed_below Vg.out hb (Boxed.lt Vg.out))
  have Rgwz := Lib.hid (Rgw.out.below hb Rgw.out.top)
  have Rgz := Lib.hid (Rg.out.below hb Rg.out.top)
  have Z0z := Lib.hid (Z0.out.below hb Z0.out.1)
  have Rghz := Lib.hid (Rgh.out.below hb Rgh.out.top)
  clear Rgw
  have Rgw := Rgwz
  clear Rgwz
  clear Vgw
  have Vgw := Vgwz
  clear Vgwz
  clear hcVgw
  have hcVgw := Boxed.cell Vgw.out
  clear Vg
  have Vg := Vgz
  clear Vgz
  clear hcVg
  have hcVg := Boxed.cell Vg.out
  clear Rg
  have Rg := Rgz
  clear Rgz
  clear Z0
  have Z0 := Z0z
  clear Z0z
  clear Rgh
  have Rgh := Rghz
  clear Rghz
  have BN := Lib.hid (B15.out.trans (hb.mono B15.out.size))
  clear B15
  have B16 := BN
  clear BN
  have Vgh := Lib.hid hxN
  have hcVgh := Boxed.cell Vgh.out
  have hWrVgh := hWN.symm
  clear hWN hxN hzN hb
  skip
  clear Z0
  go_wp2_with fail
  refine (eqMergeTree_yes _ _ R1 w_16 (Rgh.out.rowsI hcgh) (Rgw.out.rowsI hcgw) hR1 HRX.out).mono ?_
  rintro e w_17 ⟨rfl, hb⟩
  have Vgwz := Lib.hid (boxed_below Vgw.out hb (Boxed.lt Vgw.out))
  have Vgz := Lib.hid (boxed_below Vg.out hb (Boxed.lt Vg.out))
  have Vghz := Lib.hid (boxed_below Vgh.out hb (Boxed.lt Vgh.out))
  have Rgwz := Lib.hid (Rgw.out.below hb Rgw.out.top)
  have Rgz := Lib.hid (Rg.out.below hb Rg.out.top)
  have Rghz := Lib.hid (Rgh.out.below hb Rgh.out.top)
  clear Rgw
  have Rgw := Rgwz
  clear Rgwz
  clear Vgw
  have Vgw := Vgwz
  clear Vgwz
  clear hcVgw
  have hcVgw := Boxed.cell Vgw.out
  clear Vg
  have Vg := Vgz
  clear Vgz
  clear hcVg
  have hcVg := Boxed.cell Vg.out
  clear Rg
  have Rg := Rgz
  clear Rgz
  clear Rgh
  have Rgh := Rghz
  clear Rghz
  clear Vgh
  have Vgh := Vghz
  clear Vghz
  clear hcVgh
  have hcVgh := Boxed.cell Vgh.out
  have BN := Lib.hid (B16.out.trans (hb.mono B16.out.size))
  clear B16
  have B17 := BN
  clear BN
  clear hb
  go_wp2_with fail
  refine (heldMergeTree_any g lg hg cg R1 Gg Cg 1 w_17 Rg.out hR1 hRT (by omega)).mono ?_
  rintro e w_18 ⟨rfl, hb⟩
  have Vgwz := Lib.hid (boxed_below Vgw.out hb (Boxed.lt Vgw.out))
  have Vgz := Lib.hid (boxed_below Vg.out hb (Boxed.lt Vg.out))
  have Vghz := Lib.hid (boxed_below Vgh.out hb (Boxed.lt Vgh.out))
  have Rgwz := Lib.hid (Rgw.out.below hb Rgw.out.top)
  have Rgz := Lib.hid (Rg.out.below hb Rg.out.top)
  have Rghz := Lib.hid (Rgh.out.below hb Rgh.out.top)
  clear Rgw
  have Rgw := Rgwz
  clear Rgwz
  clear Vgw
  have Vgw := Vgwz
  clear Vgwz
  clear hcVgw
  have hcVgw := Boxed.cell Vgw.out
  clear Vg
  have Vg := Vgz
  clear Vgz
  clear hcVg
  have hcVg := Boxed.cell Vg.out
  clear Rg
  have Rg := Rgz
  clear Rgz
  clear Rgh
  have Rgh := Rghz
  clear Rghz
  clear Vgh
  have Vgh := Vghz
  clear Vghz
  clear hcVgh
  have hcVgh := Boxed.cell Vgh.out
  have BN := Lib.hid (B17.out.trans (hb.mono B17.out.size))
  clear B17
  have B18 := BN
  clear BN
  clear hb
  go_wp2_with fail
  go_ret
  exact ⟨rfl, B18.out⟩

set_option maxRecDepth 100000 in
set_option maxHeartbeats 4000000 in
theorem walkZ (v0 : Value) (l0 : List Int) (w : World) (w0 : FlatAt w v0 l0.length (ints l0) ∧ l0.length ≤ maxLen) (hr0 : (bmF l0).1 = []) :
    Calls Try.prog 16 #[v0] w fun e w' => e = .returned (.bool true) ∧ Below w.heap.size w w' := by
  have hv0 := w0.1
  obtain ⟨s0, c0, rfl, hx0, hx1⟩ := w0.1
  clear hx0 hx1
  have hn0 := w0.2
  unfold maxLen at hn0
  clear w0
  have HV0 := Lib.hid hv0
  clear hv0
  obtain ⟨R, hR⟩ : ∃ R, R = bmF l0 := ⟨_, rfl⟩
  have HS : Hid (∀ (x0 o0 k0 : Nat) (W : World) (h0 : FlatAt W (.slice (some ⟨x0, o0, none⟩) l0.length k0) l0.length (ints l0)) (b0 : l0.length ≤ 1048576), Calls Try.prog 64 #[(.slice (some ⟨x0, o0, none⟩) l0.length k0)] W (RetMTZ R.2 W)) := Lib.hid (fun x0 o0 k0 W h0 b0 => by rw [hR]; exact (fun x0 o0 k0 l0 W h0 b0 hr => (specBm_any x0 o0 k0 l0 W h0 b0).mono fun _ _ q => q.zero hr) x0 o0 k0 l0 W h0 b0 hr0)
  have HI : Hid (∀ (x0 o0 k0 : Nat) (W : World) (h0 : FlatAt W (.slice (some ⟨x0, o0, none⟩) l0.length k0) l0.length (ints l0)) (b0 : l0.length ≤ 1048576), Calls Try.prog 65 #[(.slice (some ⟨x0, o0, none⟩) l0.length k0)] W (RetMTZ R.2 W)) := Lib.hid (fun x0 o0 k0 W h0 b0 => by rw [hR]; exact (fun x0 o0 k0 l0 W h0 b0 hr => ((fun x o k l W h b => implBm_any sortPart x o k l W h b) x0 o0 k0 l0 W h0 b0).mono fun _ _ q => q.zero hr) x0 o0 k0 l0 W h0 b0 hr0)
  clear hR hr0
  obtain ⟨R1, R2⟩ := R
  by_cases hl0 : l0.length ≤ 1048576
  case neg =>
    clear HS HI
    have hg0 : (1048576 : Int) < l0.length := by omega
    go_enter Try.func16, Try.ntmps16
    go_wp2_with fail
    go_ret
    exact ⟨rfl, Below.refl _ _⟩
  have B0 : Hid (Below w.heap.size w w) := Lib.hid (Below.refl _ _)
  go_enter Try.func16, Try.ntmps16
  go_wp2_with fail
  refine (toIntS_any _ l0 w (HV0.out.below B0.out) hl0).mono ?_
  rintro e w_1 ⟨rfl, hr, hb⟩
  have S0 := Lib.hid (CellRow.of_row hr)
  have BN := Lib.hid (B0.out.trans (hb.mono B0.out.size))
  clear B0
  have B1 := BN
  clear BN
  clear hr hb
  go_wp2_with fail
  refine (HS.out _ _ _ w_1 (S0.out.flat (Nat.le_refl _)) hl0).mono ?_
  rintro e w_2 ⟨agw, cgw, rfl, hb⟩
  simp only
  have S0z := Lib.hid (S0.out.below hb S0.out.1)
  clear S0
  have S0 := S0z
  clear S0z
  have BN := Lib.hid (B1.out.trans (hb.mono B1.out.size))
  clear B1
  have B2 := BN
  clear BN
  clear hb
  obtain ⟨w_3, hWN, hxN, hzN, hb⟩ := box1 w_2 77 (.slice agw 0 cgw)
  have ltVgwS0 := S0.out.1
  have S0z := Lib.hid (S0.out.below hb S0.out.1)
  clear S0
  have S0 := S0z
  clear S0z
  have BN := Lib.hid (B2.out.trans (hb.mono B2.out.size))
  clear B2
  have B3 := BN
  clear BN
  have Vgw := Lib.hid hxN
  have hcVgw := Boxed.cell Vgw.out
  have hWrVgw := hWN.symm
  clear hWN hxN hzN hb
  skip
  clear S0
  clear HS
  go_wp2_with fail
  refine (toIntS_any _ l0 w_3 (HV0.out.below B3.out) hl0).mono ?_
  rintro e w_4 ⟨rfl, hr, hb⟩
  have X0 := Lib.hid (CellRow.of_row hr)
  have lox0 : w.heap.size ≤ w_3.heap.size := B3.out.size
  have ltx0Vgw := (Boxed.lt Vgw.out)
  have Vgwz := Lib.hid (boxed_below Vgw.out hb (Boxed.lt Vgw.out))
  clear Vgw
  have Vgw := Vgwz
  clear Vgwz
  clear hcVgw
  have hcVgw := Boxed.cell Vgw.out
  have BN := Lib.hid (B3.out.trans (hb.mono B3.out.size))
  clear B3
  have B4 := BN
  clear BN
  clear hr hb
  obtain ⟨gx0, hgxe⟩ : ∃ gx, gx = w_3.heap.size := ⟨_, rfl⟩
  rw [← hgxe] at X0 lox0 ltx0Vgw ⊢
  clear hgxe
  go_wp2_with fail
  refine (HI.out _ _ _ w_4 (X0.out.flat (Nat.le_refl _)) hl0).mono ?_
  rintro e w_5 ⟨ag, cg, rfl, hb⟩
  simp only
  have Vgwz := Lib.hid (boxed_below Vgw.out hb (Boxed.lt Vgw.out))
  have X0z := Lib.hid (X0.out.below hb X0.out.1)
  clear Vgw
  have Vgw := Vgwz
  clear Vgwz
  clear hcVgw
  have hcVgw := Boxed.cell Vgw.out
  clear X0
  have X0 := X0z
  clear X0z
  have BN := Lib.hid (B4.out.trans (hb.mono B4.out.size))
  clear B4
  have B5 := BN
  clear BN
  clear hb
  obtain ⟨w_6, hWN, hxN, hzN, hb⟩ := box1 w_5 77 (.slice ag 0 cg)
  have ltVgVgw := (Boxed.lt Vgw.out)
  have ltVgX0 := X0.out.1
  have Vgwz := Lib.hid (boxed_below Vgw.out hb (Boxed.lt Vgw.out))
  have X0z := Lib.hid (X0.out.below hb X0.out.1)
  clear Vgw
  have Vgw := Vgwz
  clear Vgwz
  clear hcVgw
  have hcVgw := Boxed.cell Vgw.out
  clear X0
  have X0 := X0z
  clear X0z
  have BN := Lib.hid (B5.out.trans (hb.mono B5.out.size))
  clear B5
  have B6 := BN
  clear BN
  have Vg := Lib.hid hxN
  have hcVg := Boxed.cell Vg.out
  have hWrVg := hWN.symm
  clear hWN hxN hzN hb
  skip
  go_wp2_with fail
  refine (eqMergeTree_yes _ _ [] w_6 (rows0 _ _ _) (rows0 _ _ _) (by simp) (by simp)).mono ?_
  rintro e w_7 ⟨rfl, hb⟩
  have Vgwz := Lib.hid (boxed_below Vgw.out hb (Boxed.lt Vgw.out))
  have Vgz := Lib.hid (boxed_below Vg.out hb (Boxed.lt Vg.out))
  have X0z := Lib.hid (X0.out.below hb X0.out.1)
  clear Vgw
  have Vgw := Vgwz
  clear Vgwz
  clear hcVgw
  have hcVgw := Boxed.cell Vgw.out
  clear X0
  have X0 := X0z
  clear X0z
  clear Vg
  have Vg := Vgz
  clear Vgz
  clear hcVg
  have hcVg := Boxed.cell Vg.out
  have BN := Lib.hid (B6.out.trans (hb.mono B6.out.size))
  clear B6
  have B7 := BN
  clear BN
  clear hb
  go_wp2_with fail
  refine (toIntS_any _ l0 w_7 (HV0.out.below B7.out) hl0).mono ?_
  rintro e w_8 ⟨rfl, hr, hb⟩
  have Y := Lib.hid (CellRow.of_row hr)
  have Vgwz := Lib.hid (boxed_below Vgw.out hb (Boxed.lt Vgw.out))
  have Vgz := Lib.hid (boxed_below Vg.out hb (Boxed.lt Vg.out))
  have X0z := Lib.hid (X0.out.below hb X0.out.1)
  clear Vgw
  have Vgw := Vgwz
  clear Vgwz
  clear hcVgw
  have hcVgw := Boxed.cell Vgw.out
  clear X0
  have X0 := X0z
  clear X0z
  clear Vg
  have Vg := Vgz
  clear Vgz
  clear hcVg
  have hcVg := Boxed.cell Vg.out
  have BN := Lib.hid (B7.out.trans (hb.mono B7.out.size))
  clear B7
  have B8 := BN
  clear BN
  clear hr hb
  go_wp2_with fail
  refine (eqIntS_yes _ _ l0 w_8 (X0.out.flat (Nat.le_refl _)) (Y.out.flat (Nat.le_refl _)) hl0).mono ?_
  rintro e w_9 ⟨rfl, hb⟩
  have Vgwz := Lib.hid (boxed_below Vgw.out hb (Boxed.lt Vgw.out))
  have Vgz := Lib.hid (boxed_below Vg.out hb (Boxed.lt Vg.out))
  have X0z := Lib.hid (X0.out.below hb X0.out.1)
  have Yz := Lib.hid (Y.out.below hb Y.out.1)
  clear Vgw
  have Vgw := Vgwz
  clear Vgwz
  clear hcVgw
  have hcVgw := Boxed.cell Vgw.out
  clear X0
  have X0 := X0z
  clear X0z
  clear Vg
  have Vg := Vgz
  clear Vgz
  clear hcVg
  have hcVg := Boxed.cell Vg.out
  clear Y
  have Y := Yz
  clear Yz
  have BN := Lib.hid (B8.out.trans (hb.mono B8.out.size))
  clear B8
  have B9 := BN
  clear BN
  clear hb
  go_wp2_with fail
  clear Y
  refine (markIntS_any gx0 l0.length l0 (1) w_9 X0.out hl0 (by omega)).mono ?_
  rintro e w_10 ⟨rfl, _, hb⟩
  clear X0
  have Vgwz := Lib.hid ((hb.block _ (Boxed.lt Vgw.out) (by omega)).trans Vgw.out)
  have Vgz := Lib.hid ((hb.block _ (Boxed.lt Vg.out) (by omega)).trans Vg.out)
  clear Vgw
  have Vgw := Vgwz
  clear Vgwz
  clear hcVgw
  have hcVgw := Boxed.cell Vgw.out
  clear Vg
  have Vg := Vgz
  clear Vgz
  clear hcVg
  have hcVg := Boxed.cell Vg.out
  have BN := Lib.hid (B9.out.trans (hb.below lox0 B9.out.size))
  clear B9
  have B10 := BN
  clear BN
  clear hb
  go_wp2_with fail
  refine (eqMergeTree_yes _ _ [] w_10 (rows0 _ _ _) (rows0 _ _ _) (by simp) (by simp)).mono ?_
  rintro e w_11 ⟨rfl, hb⟩
  have Vgwz := Lib.hid (boxed_below Vgw.out hb (Boxed.lt Vgw.out))
  have Vgz := Lib.hid (boxed_below Vg.out hb (Boxed.lt Vg.out))
  clear Vgw
  have Vgw := Vgwz
  clear Vgwz
  clear hcVgw
  have hcVgw := Boxed.cell Vgw.out
  clear Vg
  have Vg := Vgz
  clear Vgz
  clear hcVg
  have hcVg := Boxed.cell Vg.out
  have BN := Lib.hid (B10.out.trans (hb.mono B10.out.size))
  clear B10
  have B11 := BN
  clear BN
  clear hb
  go_wp2_with fail
  refine (markSS0_any _ _ w_11).mono ?_
  rintro e w_12 ⟨rfl, hb⟩
  have Vgwz := Lib.hid (boxed_below Vgw.out hb (Boxed.lt Vgw.out))
  have Vgz := Lib.hid (boxed_below Vg.out hb (Boxed.lt Vg.out))
  clear Vgw
  have Vgw := Vgwz
  clear Vgwz
  clear hcVgw
  have hcVgw := Boxed.cell Vgw.out
  clear Vg
  have Vg := Vgz
  clear Vgz
  clear hcVg
  have hcVg := Boxed.cell Vg.out
  have BN := Lib.hid (B11.out.trans (hb.mono B11.out.size))
  clear B11
  have B12 := BN
  clear BN
  clear hb
  go_wp2_with fail
  refine (heldSS0_any _ _ w_12).mono ?_
  rintro e w_13 ⟨rfl, hb⟩
  have Vgwz := Lib.hid (boxed_below Vgw.out hb (Boxed.lt Vgw.out))
  have Vgz := Lib.hid (boxed_below Vg.out hb (Boxed.lt Vg.out))
  clear Vgw
  have Vgw := Vgwz
  clear Vgwz
  clear hcVgw
  have hcVgw := Boxed.cell Vgw.out
  clear Vg
  have Vg := Vgz
  clear Vgz
  clear hcVg
  have hcVg := Boxed.cell Vg.out
  have BN := Lib.hid (B12.out.trans (hb.mono B12.out.size))
  clear B12
  have B13 := BN
  clear BN
  clear hb
  go_wp2_with fail
  refine (toIntS_any _ l0 w_13 (HV0.out.below B13.out) hl0).mono ?_
  rintro e w_14 ⟨rfl, hr, hb⟩
  have Z0 := Lib.hid (CellRow.of_row hr)
  have Vgwz := Lib.hid (boxed_below Vgw.out hb (Boxed.lt Vgw.out))
  have Vgz := Lib.hid (boxed_below Vg.out hb (Boxed.lt Vg.out))
  clear Vgw
  have Vgw := Vgwz
  clear Vgwz
  clear hcVgw
  have hcVgw := Boxed.cell Vgw.out
  clear Vg
  have Vg := Vgz
  clear Vgz
  clear hcVg
  have hcVg := Boxed.cell Vg.out
  have BN := Lib.hid (B13.out.trans (hb.mono B13.out.size))
  clear B13
  have B14 := BN
  clear BN
  clear hr hb
  go_wp2_with fail
  refine (HI.out _ _ _ w_14 (Z0.out.flat (Nat.le_refl _)) hl0).mono ?_
  rintro e w_15 ⟨agh, cgh, rfl, hb⟩
  simp only
  have Vgwz := Lib.hid (boxed_below Vgw.out hb (Boxed.lt Vgw.out))
  have Vgz := Lib.hid (boxed_below Vg.out hb (Boxed.lt Vg.out))
  have Z0z := Lib.hid (Z0.out.below hb Z0.out.1)
  clear Vgw
  have Vgw := Vgwz
  clear Vgwz
  clear hcVgw
  have hcVgw := Boxed.cell Vgw.out
  clear Vg
  have Vg := Vgz
  clear Vgz
  clear hcVg
  have hcVg := Boxed.cell Vg.out
  clear Z0
  have Z0 := Z0z
  clear Z0z
  have BN := Lib.hid (B14.out.trans (hb.mono B14.out.size))
  clear B14
  have B15 := BN
  clear BN
  clear hb
  obtain ⟨w_16, hWN, hxN, hzN, hb⟩ := box1 w_15 77 (.slice agh 0 cgh)
  have ltVghVgw := (Boxed.lt Vgw.out)
  have ltVghVg := (Boxed.lt Vg.out)
  have ltVghZ0 := Z0.out.1
  have Vgwz := Lib.hid (boxed_below Vgw.out hb (Boxed.lt Vgw.out))
  have Vgz := Lib.hid (boxed_below Vg.out hb (Boxed.lt Vg.out))
  have Z0z := Lib.hid (Z0.out.below hb Z0.out.1)
  clear Vgw
  have Vgw := Vgwz
  clear Vgwz
  clear hcVgw
  have hcVgw := Boxed.cell Vgw.out
  clear Vg
  have Vg := Vgz
  clear Vgz
  clear hcVg
  have hcVg := Boxed.cell Vg.out
  clear Z0
  have Z0 := Z0z
  clear Z0z
  have BN := Lib.hid (B15.out.trans (hb.mono B15.out.size))
  clear B15
  have B16 := BN
  clear BN
  have Vgh := Lib.hid hxN
  have hcVgh := Boxed.cell Vgh.out
  have hWrVgh := hWN.symm
  clear hWN hxN hzN hb
  skip
  clear Z0
  go_wp2_with fail
  refine (eqMergeTree_yes _ _ [] w_16 (rows0 _ _ _) (rows0 _ _ _) (by simp) (by simp)).mono ?_
  rintro e w_17 ⟨rfl, hb⟩
  have Vgwz := Lib.hid (boxed_below Vgw.out hb (Boxed.lt Vgw.out))
  have Vgz := Lib.hid (boxed_below Vg.out hb (Boxed.lt Vg.out))
  have Vghz := Lib.hid (boxed_below Vgh.out hb (Boxed.lt Vgh.out))
  clear Vgw
  have Vgw := Vgwz
  clear Vgwz
  clear hcVgw
  have hcVgw := Boxed.cell Vgw.out
  clear Vg
  have Vg := Vgz
  clear Vgz
  clear hcVg
  have hcVg := Boxed.cell Vg.out
  clear Vgh
  have Vgh := Vghz
  clear Vghz
  clear hcVgh
  have hcVgh := Boxed.cell Vgh.out
  have BN := Lib.hid (B16.out.trans (hb.mono B16.out.size))
  clear B16
  have B17 := BN
  clear BN
  clear hb
  go_wp2_with fail
  refine (heldSS0_any _ _ w_17).mono ?_
  rintro e w_18 ⟨rfl, hb⟩
  have Vgwz := Lib.hid (boxed_below Vgw.out hb (Boxed.lt Vgw.out))
  have Vgz := Lib.hid (boxed_below Vg.out hb (Boxed.lt Vg.out))
  have Vghz := Lib.hid (boxed_below Vgh.out hb (Boxed.lt Vgh.out))
  clear Vgw
  have Vgw := Vgwz
  clear Vgwz
  clear hcVgw
  have hcVgw := Boxed.cell Vgw.out
  clear Vg
  have Vg := Vgz
  clear Vgz
  clear hcVg
  have hcVg := Boxed.cell Vg.out
  clear Vgh
  have Vgh := Vghz
  clear Vghz
  clear hcVgh
  have hcVgh := Boxed.cell Vgh.out
  have BN := Lib.hid (B17.out.trans (hb.mono B17.out.size))
  clear B17
  have B18 := BN
  clear BN
  clear hb
  go_wp2_with fail
  go_ret
  exact ⟨rfl, B18.out⟩

theorem walk (v0 : Value) (l0 : List Int) (w : World) (w0 : FlatAt w v0 l0.length (ints l0) ∧ l0.length ≤ maxLen) :
    Calls Try.prog 16 #[v0] w fun e w' => e = .returned (.bool true) ∧ Below w.heap.size w w' := by
  by_cases hr0 : (bmF l0).1 = []
  · exact walkZ v0 l0 w w0 hr0
  · exact walkS v0 l0 w w0 hr0

set_option maxRecDepth 100000 in
theorem lifted (os : Os) (started : os.Started) (H : Type) (enc : TypeId × Value → H) :
    ReturnsInHanded {} Try.checked os 16 .any (Rows.fnExactBuildMergeTreeSpec.pre6 enc Try.prog Try.f16 Rows.fnExactBuildMergeTreeRow.domain false) (Rows.fnExactBuildMergeTreeSpec.post enc Try.prog Try.f16 false true false false) := by
  refine returnsInHanded_of_change (C := Try.checked) own started (by kernel_rfl) Try.func16
    (ChangeSpec.witness6 (enc := enc) (C := Try.checked) false ⟨#[], #[.slice none 0 0], []⟩ 8 (by kernel_rfl) (by kernel_rfl) (by kernel_rfl) (by kernel_rfl)) ?_
  intro W base args ds gs before hval0 hW hcnd _
  have hval : ∀ (j : Nat) t v, Try.f16.params[j]? = some t → args[j]? = some v → Value.okWide Try.prog W .any base t v := hval0
  have hW' := hW
  obtain ⟨p, q, hA0, hV, rfl, hfz, hnd⟩ := hW
  have hA : DataW.TrodAll enc Try.prog W 0 (fun _ => true) true Try.f16.params.toList args.toList ds p := hA0
  rw [Try.params16] at hA hval
  obtain ⟨v0, vs0, d0, ds0, p0, q0, hargs, rfl, rfl, h0, r0⟩ := trodAll_cons hA
  obtain ⟨rfl, rfl, rfl⟩ := trodAll_nil r0
  obtain rfl : args = #[v0] := by cases args; simp_all
  obtain ⟨rfl, rfl⟩ := trodVars_none hV
  obtain ⟨a0, len0, cap0, rfl⟩ := okWide_slice Try.underlying22 (hval 0 22 v0 rfl rfl)
  have k0 := h0
  have lt0 : ∀ x ∈ p0, x.block < W.heap.size := by obtain ⟨m, hm⟩ := k0; exact DataW.trod_lt m _ _ _ hm
  obtain ⟨l0, w0⟩ : ∃ l : List Int, FlatAt W (.slice a0 len0 cap0) l.length (ints l) ∧ l.length ≤ maxLen := by
    obtain ⟨fuel, hf⟩ := h0
    obtain ⟨l, e, hm, hf⟩ := open_intl hf
    exact ⟨l, hf, by rw [e]; exact hm⟩
  clear hA0 hval0
  refine (walk (.slice a0 len0 cap0) l0 W w0).mono fun e W' ⟨he, bel⟩ => ?_
  subst he
  exact ⟨_, rfl, _, _, _, [], _, [], hW', trodAll_mk1 (shut_bool Try.underlying4 _), (trodAll_cons_mk (Below.trod laidOut (by kernel_rfl) (of_decide_eq_true (by kernel_rfl)) k0 bel lt0) trodAll_mk0), rfl, bel.frame _, fun h => by cases h⟩

theorem closed : joinedFacts Try.prog 16 Try.f16 Rows.fnExactBuildMergeTreeSpec Rows.fnExactBuildMergeTreeRow = true := by
  unfold joinedFacts
  rw [head_enter, head_final, head_make]
  kernel_rfl

theorem over : Rows.fnExactBuildMergeTreeRow.holds Try.pinned (OpenSpec.ofChange Rows.fnExactBuildMergeTreeSpec) :=
  OpenClaim.holds_of_wide 16 Try.f16 rfl rfl rfl rfl rfl rfl rfl ⟨rfl, rfl, rfl, rfl, rfl⟩ rfl rfl rfl rfl rfl (by kernel_rfl) Try.func16 closed
    (of_decide_eq_true (by kernel_rfl)) (by unfold Func.isWrapper; first | (rw [if_pos (by decide +kernel)]; kernel_rfl) | (rw [if_neg (by decide +kernel)]; exact ⟨rfl, rfl⟩))
    (fun os started H enc _ => lifted os started H enc)

theorem proved : Rows.FnExactBuildMergeTreeSaid := over
#print axioms proved
end Go.Proofs.Ytgfdpjmhdijdiaa.fnExactBuildMergeTree
