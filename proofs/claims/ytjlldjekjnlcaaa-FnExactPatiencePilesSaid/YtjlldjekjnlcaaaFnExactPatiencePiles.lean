/- FnExactPatiencePiles returns true at every input. No condition. -/
import Derived.Test.YtjlldjekjnlcaaaRows
import Derived.WalkKit
import Derived.ProofKit
import Derived.OpenShut
import Derived.ShutString
import Derived.ChangeOld
import Derived.Below
import Derived.SliceStrings
import Derived.Test.YtjlldjekjnlcaaaHead
import Derived.Test.YtjlldjekjnlcaaaIntS
import Derived.Test.YtjlldjekjnlcaaaIntSE
import Derived.Test.YtjlldjekjnlcaaaIntSM
import Derived.Test.YtjlldjekjnlcaaaIntSH
import Derived.Test.YtjlldjekjnlcaaaOpenI
import Derived.Test.YtjlldjekjnlcaaaIPp
import Derived.Test.YtjlldjekjnlcaaaSPp
namespace Go.Proofs.Ytjlldjekjnlcaaa.fnExactPatiencePiles
open Go.ChangeShapes Go.WideShapes Go.ChangeAt Go.RowKit
open Go.ChangeMaps (open_string shut_string)
set_option linter.unusedVariables false

theorem own : ownKnob Try.prog.godebug = none := by kernel_rfl
theorem laidOut : laidOutB Try.prog = true := by kernel_rfl

set_option maxRecDepth 100000 in
set_option maxHeartbeats 4000000 in
theorem walkS (v0 : Value) (l0 : List Int) (w : World) (w0 : FlatAt w v0 l0.length (ints l0) ∧ l0.length ≤ maxLen) (hr0 : (Iv.ppF l0).1 ≠ []) :
    Calls Try.prog 13 #[v0] w fun e w' => e = .returned (.bool true) ∧ Below w.heap.size w w' := by
  have hv0 := w0.1
  obtain ⟨s0, c0, rfl, hx0, hx1⟩ := w0.1
  clear hx0 hx1
  have hn0 := w0.2
  unfold maxLen at hn0
  clear w0
  have HV0 := Lib.hid hv0
  clear hv0
  obtain ⟨R, hR⟩ : ∃ R, R = Iv.ppF l0 := ⟨_, rfl⟩
  have HS : Hid (∀ (x0 o0 k0 : Nat) (W : World) (h0 : FlatAt W (.slice (some ⟨x0, o0, none⟩) l0.length k0) l0.length (ints l0)) (b0 : l0.length ≤ 1048576), Calls Try.prog 45 #[(.slice (some ⟨x0, o0, none⟩) l0.length k0)] W (RetSS R W)) := Lib.hid (fun x0 o0 k0 W h0 b0 => by rw [hR]; exact (fun x0 o0 k0 l0 W h0 b0 hr => ((fun x o k l W h b => specPp_any _ l W h b) x0 o0 k0 l0 W h0 b0).mono fun _ _ q => q.own hr) x0 o0 k0 l0 W h0 b0 hr0)
  have HI : Hid (∀ (x0 o0 k0 : Nat) (W : World) (h0 : FlatAt W (.slice (some ⟨x0, o0, none⟩) l0.length k0) l0.length (ints l0)) (b0 : l0.length ≤ 1048576), Calls Try.prog 31 #[(.slice (some ⟨x0, o0, none⟩) l0.length k0)] W (RetSS R W)) := Lib.hid (fun x0 o0 k0 W h0 b0 => by rw [hR]; exact (fun x0 o0 k0 l0 W h0 b0 hr => ((fun x o k l W h b => implPp_any _ l W h b) x0 o0 k0 l0 W h0 b0).mono fun _ _ q => q.own hr) x0 o0 k0 l0 W h0 b0 hr0)
  have HLEN : Hid (∀ (b0 : l0.length ≤ 1048576), SmallSS R.1) := Lib.hid (fun b0 => by rw [hR]; exact (ppF_small l0))
  clear hR hr0
  obtain ⟨R1, R2⟩ := R
  by_cases hl0 : l0.length ≤ 1048576
  case neg =>
    clear HS HI HLEN
    have hg0 : (1048576 : Int) < l0.length := by omega
    go_enter Try.func13, Try.ntmps13
    go_wp2_with fail
    go_ret
    exact ⟨rfl, Below.refl _ _⟩
  have HLE := Lib.hid (HLEN.out hl0)
  clear HLEN
  have hR1 : R1.length ≤ 1048576 := HLE.out.1
  have hRT : offs R1 R1.length ≤ 1048576 := HLE.out.2.2
  have HRX : Hid (∀ (j : Nat) x, R1[j]? = some x → x.length ≤ 1048576) := Lib.hid HLE.out.2.1
  clear HLE
  have B0 : Hid (Below w.heap.size w w) := Lib.hid (Below.refl _ _)
  go_enter Try.func13, Try.ntmps13
  go_wp2_with fail
  refine (toIntS_any _ l0 w (HV0.out.below B0.out) hl0).mono ?_
  rintro e w_1 ⟨rfl, hr, hb⟩
  have S0 := Lib.hid (CellRow.of_row hr)
  have BN := Lib.hid (B0.out.trans (hb.mono B0.out.size))
  clear B0
  have B1 := BN
  clear BN
  clear hr hb
  go_wp2_with fail
  refine (HS.out _ _ _ w_1 (S0.out.flat (Nat.le_refl _)) hl0).mono ?_
  rintro e w_2 ⟨gw, cgw, Ggw, Cgw, rfl, hcgw, hrow, hb⟩
  simp only at hcgw hrow
  have logw : w.heap.size ≤ w_1.heap.size := B1.out.size
  have ltgwS0 := S0.out.1
  obtain ⟨lgw, hle⟩ : ∃ x, x = w_1.heap.size := ⟨_, rfl⟩
  rw [← hle] at hrow logw ltgwS0
  clear hle
  obtain ⟨hgw, hle⟩ : ∃ x, x = w_2.heap.size := ⟨_, rfl⟩
  rw [← hle] at hrow
  clear hle
  have Rgw := Lib.hid hrow
  have S0z := Lib.hid (S0.out.below hb S0.out.1)
  clear S0
  have S0 := S0z
  clear S0z
  have BN := Lib.hid (B1.out.trans (hb.mono B1.out.size))
  clear B1
  have B2 := BN
  clear BN
  clear hrow hb
  clear S0
  clear HS
  go_wp2_with fail
  refine (toIntS_any _ l0 w_2 (HV0.out.below B2.out) hl0).mono ?_
  rintro e w_3 ⟨rfl, hr, hb⟩
  have X0 := Lib.hid (CellRow.of_row hr)
  have lox0 : w.heap.size ≤ w_2.heap.size := B2.out.size
  have ltx0Rgw := Rgw.out.top
  have Rgwz := Lib.hid (Rgw.out.below hb Rgw.out.top)
  clear Rgw
  have Rgw := Rgwz
  clear Rgwz
  have BN := Lib.hid (B2.out.trans (hb.mono B2.out.size))
  clear B2
  have B3 := BN
  clear BN
  clear hr hb
  obtain ⟨gx0, hgxe⟩ : ∃ gx, gx = w_2.heap.size := ⟨_, rfl⟩
  rw [← hgxe] at X0 lox0 ltx0Rgw ⊢
  clear hgxe
  go_wp2_with fail
  refine (HI.out _ _ _ w_3 (X0.out.flat (Nat.le_refl _)) hl0).mono ?_
  rintro e w_4 ⟨g, cg, Gg, Cg, rfl, hcg, hrow, hb⟩
  simp only at hcg hrow
  have log : w.heap.size ≤ w_3.heap.size := B3.out.size
  have ltgRgw := Rgw.out.top
  have ltgX0 := X0.out.1
  obtain ⟨lg, hle⟩ : ∃ x, x = w_3.heap.size := ⟨_, rfl⟩
  rw [← hle] at hrow log ltgRgw ltgX0
  clear hle
  obtain ⟨hg, hle⟩ : ∃ x, x = w_4.heap.size := ⟨_, rfl⟩
  rw [← hle] at hrow
  clear hle
  have Rg := Lib.hid hrow
  have Rgwz := Lib.hid (Rgw.out.below hb Rgw.out.top)
  have X0z := Lib.hid (X0.out.below hb X0.out.1)
  clear Rgw
  have Rgw := Rgwz
  clear Rgwz
  clear X0
  have X0 := X0z
  clear X0z
  have BN := Lib.hid (B3.out.trans (hb.mono B3.out.size))
  clear B3
  have B4 := BN
  clear BN
  clear hrow hb
  go_wp2_with fail
  refine (eqIntSS_yes _ _ R1 w_4 (Rg.out.rowsI hcg) (Rgw.out.rowsI hcgw) hR1 HRX.out).mono ?_
  rintro e w_5 ⟨rfl, hb⟩
  have Rgwz := Lib.hid (Rgw.out.below hb Rgw.out.top)
  have X0z := Lib.hid (X0.out.below hb X0.out.1)
  have Rgz := Lib.hid (Rg.out.below hb Rg.out.top)
  clear Rgw
  have Rgw := Rgwz
  clear Rgwz
  clear X0
  have X0 := X0z
  clear X0z
  clear Rg
  have Rg := Rgz
  clear Rgz
  have BN := Lib.hid (B4.out.trans (hb.mono B4.out.size))
  clear B4
  have B5 := BN
  clear BN
  clear hb
  go_wp2_with fail
  refine (toIntS_any _ l0 w_5 (HV0.out.below B5.out) hl0).mono ?_
  rintro e w_6 ⟨rfl, hr, hb⟩
  have Y := Lib.hid (CellRow.of_row hr)
  have Rgwz := Lib.hid (Rgw.out.below hb Rgw.out.top)
  have X0z := Lib.hid (X0.out.below hb X0.out.1)
  have Rgz := Lib.hid (Rg.out.below hb Rg.out.top)
  clear Rgw
  have Rgw := Rgwz
  clear Rgwz
  clear X0
  have X0 := X0z
  clear X0z
  clear Rg
  have Rg := Rgz
  clear Rgz
  have BN := Lib.hid (B5.out.trans (hb.mono B5.out.size))
  clear B5
  have B6 := BN
  clear BN
  clear hr hb
  go_wp2_with fail
  refine (eqIntS_yes _ _ l0 w_6 (X0.out.flat (Nat.le_refl _)) (Y.out.flat (Nat.le_refl _)) hl0).mono ?_
  rintro e w_7 ⟨rfl, hb⟩
  have Rgwz := Lib.hid (Rgw.out.below hb Rgw.out.top)
  have X0z := Lib.hid (X0.out.below hb X0.out.1)
  have Rgz := Lib.hid (Rg.out.below hb Rg.out.top)
  have Yz := Lib.hid (Y.out.below hb Y.out.1)
  clear Rgw
  have Rgw := Rgwz
  clear Rgwz
  clear X0
  have X0 := X0z
  clear X0z
  clear Rg
  have Rg := Rgz
  clear Rgz
  clear Y
  have Y := Yz
  clear Yz
  have BN := Lib.hid (B6.out.trans (hb.mono B6.out.size))
  clear B6
  have B7 := BN
  clear BN
  clear hb
  go_wp2_with fail
  clear Y
  refine (markIntS_any gx0 l0.length l0 (1) w_7 X0.out hl0 (by omega)).mono ?_
  rintro e w_8 ⟨rfl, _, hb⟩
  clear X0
  have Rgwz := Lib.hid (Rgw.out.but hb (by omega))
  have Rgz := Lib.hid (Rg.out.but hb (by omega))
  clear Rgw
  have Rgw := Rgwz
  clear Rgwz
  clear Rg
  have Rg := Rgz
  clear Rgz
  have BN := Lib.hid (B7.out.trans (hb.below lox0 B7.out.size))
  clear B7
  have B8 := BN
  clear BN
  clear hb
  go_wp2_with fail
  refine (eqIntSS_yes _ _ R1 w_8 (Rg.out.rowsI hcg) (Rgw.out.rowsI hcgw) hR1 HRX.out).mono ?_
  rintro e w_9 ⟨rfl, hb⟩
  have Rgwz := Lib.hid (Rgw.out.below hb Rgw.out.top)
  have Rgz := Lib.hid (Rg.out.below hb Rg.out.top)
  clear Rgw
  have Rgw := Rgwz
  clear Rgwz
  clear Rg
  have Rg := Rgz
  clear Rgz
  have BN := Lib.hid (B8.out.trans (hb.mono B8.out.size))
  clear B8
  have B9 := BN
  clear BN
  clear hb
  go_wp2_with fail
  refine (markIntSS_any g lg hg cg R1 Gg Cg 1 w_9 Rg.out hR1 hRT (by omega)).mono ?_
  rintro e w_10 ⟨rfl, hr, hb⟩
  clear Rg
  have Rgwz := Lib.hid (Rgw.out.within hb (by omega))
  clear Rgw
  have Rgw := Rgwz
  clear Rgwz
  have BN := Lib.hid (B9.out.trans (hb.below log B9.out.size))
  clear B9
  have B10 := BN
  clear BN
  have Rg := Lib.hid hr
  clear hr hb
  go_wp2_with fail
  refine (heldIntSS_any g lg hg cg R1 Gg Cg 1 w_10 Rg.out hR1 hRT (by omega)).mono ?_
  rintro e w_11 ⟨rfl, hb⟩
  have Rgwz := Lib.hid (Rgw.out.below hb Rgw.out.top)
  have Rgz := Lib.hid (Rg.out.below hb Rg.out.top)
  clear Rgw
  have Rgw := Rgwz
  clear Rgwz
  clear Rg
  have Rg := Rgz
  clear Rgz
  have BN := Lib.hid (B10.out.trans (hb.mono B10.out.size))
  clear B10
  have B11 := BN
  clear BN
  clear hb
  go_wp2_with fail
  refine (toIntS_any _ l0 w_11 (HV0.out.below B11.out) hl0).mono ?_
  rintro e w_12 ⟨rfl, hr, hb⟩
  have Z0 := Lib.hid (CellRow.of_row hr)
  have Rgwz := Lib.hid (Rgw.out.below hb Rgw.out.top)
  have Rgz := Lib.hid (Rg.out.below hb Rg.out.top)
  clear Rgw
  have Rgw := Rgwz
  clear Rgwz
  clear Rg
  have Rg := Rgz
  clear Rgz
  have BN := Lib.hid (B11.out.trans (hb.mono B11.out.size))
  clear B11
  have B12 := BN
  clear BN
  clear hr hb
  go_wp2_with fail
  refine (HI.out _ _ _ w_12 (Z0.out.flat (Nat.le_refl _)) hl0).mono ?_
  rintro e w_13 ⟨gh, cgh, Ggh, Cgh, rfl, hcgh, hrow, hb⟩
  simp only at hcgh hrow
  have logh : w.heap.size ≤ w_12.heap.size := B12.out.size
  have ltghRgw := Rgw.out.top
  have ltghRg := Rg.out.top
  have ltghZ0 := Z0.out.1
  obtain ⟨lgh, hle⟩ : ∃ x, x = w_12.heap.size := ⟨_, rfl⟩
  rw [← hle] at hrow logh ltghRgw ltghRg ltghZ0
  clear hle
  obtain ⟨hgh, hle⟩ : ∃ x, x = w_13.heap.size := ⟨_, rfl⟩
  rw [← hle] at hrow
  clear hle
  have Rgh := Lib.hid hrow
  have Rgwz := Lib.hid (Rgw.out.below hb Rgw.out.top)
  have Rgz := Lib.hid (Rg.out.below hb Rg.out.top)
  have Z0z := Lib.hid (Z0.out.below hb Z0.out.1)
  clear Rgw
  have Rgw := Rgwz
  clear Rgwz
  clear Rg
  have Rg := Rgz
  clear Rgz
  clear Z0
  have Z0 := Z0z
  clear Z0z
  have BN := Lib.hid (B12.out.trans (hb.mono B12.out.size))
  clear B12
  have B13 := BN
  clear BN
  clear hrow hb
  clear Z0
  go_wp2_with fail
  refine (eqIntSS_yes _ _ R1 w_13 (Rgh.out.rowsI hcgh) (Rgw.out.rowsI hcgw) hR1 HRX.out).mono ?_
  rintro e w_14 ⟨rfl, hb⟩
  have Rgwz := Lib.hid (Rgw.out.below hb Rgw.out.top)
  have Rgz := Lib.hid (Rg.out.below hb Rg.out.top)
  have Rghz := Lib.hid (Rgh.out.below hb Rgh.out.top)
  clear Rgw
  have Rgw := Rgwz
  clear Rgwz
  clear Rg
  have Rg := Rgz
  clear Rgz
  clear Rgh
  have Rgh := Rghz
  clear Rghz
  have BN := Lib.hid (B13.out.trans (hb.mono B13.out.size))
  clear B13
  have B14 := BN
  clear BN
  clear hb
  go_wp2_with fail
  refine (heldIntSS_any g lg hg cg R1 Gg Cg 1 w_14 Rg.out hR1 hRT (by omega)).mono ?_
  rintro e w_15 ⟨rfl, hb⟩
  have Rgwz := Lib.hid (Rgw.out.below hb Rgw.out.top)
  have Rgz := Lib.hid (Rg.out.below hb Rg.out.top)
  have Rghz := Lib.hid (Rgh.out.below hb Rgh.out.top)
  clear Rgw
  have Rgw := Rgwz
  clear Rgwz
  clear Rg
  have Rg := Rgz
  clear Rgz
  clear Rgh
  have Rgh := Rghz
  clear Rghz
  have BN := Lib.hid (B14.out.trans (hb.mono B14.out.size))
  clear B14
  have B15 := BN
  clear BN
  clear hb
  go_wp2_with fail
  go_ret
  exact ⟨rfl, B15.out⟩

set_option maxRecDepth 100000 in
set_option maxHeartbeats 4000000 in
theorem walkZ (v0 : Value) (l0 : List Int) (w : World) (w0 : FlatAt w v0 l0.length (ints l0) ∧ l0.length ≤ maxLen) (hr0 : (Iv.ppF l0).1 = []) :
    Calls Try.prog 13 #[v0] w fun e w' => e = .returned (.bool true) ∧ Below w.heap.size w w' := by
  have hv0 := w0.1
  obtain ⟨s0, c0, rfl, hx0, hx1⟩ := w0.1
  clear hx0 hx1
  have hn0 := w0.2
  unfold maxLen at hn0
  clear w0
  have HV0 := Lib.hid hv0
  clear hv0
  obtain ⟨R, hR⟩ : ∃ R, R = Iv.ppF l0 := ⟨_, rfl⟩
  have HS : Hid (∀ (x0 o0 k0 : Nat) (W : World) (h0 : FlatAt W (.slice (some ⟨x0, o0, none⟩) l0.length k0) l0.length (ints l0)) (b0 : l0.length ≤ 1048576), Calls Try.prog 45 #[(.slice (some ⟨x0, o0, none⟩) l0.length k0)] W (RetSSZ R.2 W)) := Lib.hid (fun x0 o0 k0 W h0 b0 => by rw [hR]; exact (fun x0 o0 k0 l0 W h0 b0 hr => ((fun x o k l W h b => specPp_any _ l W h b) x0 o0 k0 l0 W h0 b0).mono fun _ _ q => q.zero hr) x0 o0 k0 l0 W h0 b0 hr0)
  have HI : Hid (∀ (x0 o0 k0 : Nat) (W : World) (h0 : FlatAt W (.slice (some ⟨x0, o0, none⟩) l0.length k0) l0.length (ints l0)) (b0 : l0.length ≤ 1048576), Calls Try.prog 31 #[(.slice (some ⟨x0, o0, none⟩) l0.length k0)] W (RetSSZ R.2 W)) := Lib.hid (fun x0 o0 k0 W h0 b0 => by rw [hR]; exact (fun x0 o0 k0 l0 W h0 b0 hr => ((fun x o k l W h b => implPp_any _ l W h b) x0 o0 k0 l0 W h0 b0).mono fun _ _ q => q.zero hr) x0 o0 k0 l0 W h0 b0 hr0)
  clear hR hr0
  obtain ⟨R1, R2⟩ := R
  by_cases hl0 : l0.length ≤ 1048576
  case neg =>
    clear HS HI
    have hg0 : (1048576 : Int) < l0.length := by omega
    go_enter Try.func13, Try.ntmps13
    go_wp2_with fail
    go_ret
    exact ⟨rfl, Below.refl _ _⟩
  have B0 : Hid (Below w.heap.size w w) := Lib.hid (Below.refl _ _)
  go_enter Try.func13, Try.ntmps13
  go_wp2_with fail
  refine (toIntS_any _ l0 w (HV0.out.below B0.out) hl0).mono ?_
  rintro e w_1 ⟨rfl, hr, hb⟩
  have S0 := Lib.hid (CellRow.of_row hr)
  have BN := Lib.hid (B0.out.trans (hb.mono B0.out.size))
  clear B0
  have B1 := BN
  clear BN
  clear hr hb
  go_wp2_with fail
  refine (HS.out _ _ _ w_1 (S0.out.flat (Nat.le_refl _)) hl0).mono ?_
  rintro e w_2 ⟨agw, cgw, rfl, hb⟩
  simp only
  have S0z := Lib.hid (S0.out.below hb S0.out.1)
  clear S0
  have S0 := S0z
  clear S0z
  have BN := Lib.hid (B1.out.trans (hb.mono B1.out.size))
  clear B1
  have B2 := BN
  clear BN
  clear hb
  clear S0
  clear HS
  go_wp2_with fail
  refine (toIntS_any _ l0 w_2 (HV0.out.below B2.out) hl0).mono ?_
  rintro e w_3 ⟨rfl, hr, hb⟩
  have X0 := Lib.hid (CellRow.of_row hr)
  have lox0 : w.heap.size ≤ w_2.heap.size := B2.out.size
  have BN := Lib.hid (B2.out.trans (hb.mono B2.out.size))
  clear B2
  have B3 := BN
  clear BN
  clear hr hb
  obtain ⟨gx0, hgxe⟩ : ∃ gx, gx = w_2.heap.size := ⟨_, rfl⟩
  rw [← hgxe] at X0 lox0  ⊢
  clear hgxe
  go_wp2_with fail
  refine (HI.out _ _ _ w_3 (X0.out.flat (Nat.le_refl _)) hl0).mono ?_
  rintro e w_4 ⟨ag, cg, rfl, hb⟩
  simp only
  have X0z := Lib.hid (X0.out.below hb X0.out.1)
  clear X0
  have X0 := X0z
  clear X0z
  have BN := Lib.hid (B3.out.trans (hb.mono B3.out.size))
  clear B3
  have B4 := BN
  clear BN
  clear hb
  go_wp2_with fail
  refine (eqIntSS_yes _ _ [] w_4 (rowsI0 _ _ _) (rowsI0 _ _ _) (by simp) (by simp)).mono ?_
  rintro e w_5 ⟨rfl, hb⟩
  have X0z := Lib.hid (X0.out.below hb X0.out.1)
  clear X0
  have X0 := X0z
  clear X0z
  have BN := Lib.hid (B4.out.trans (hb.mono B4.out.size))
  clear B4
  have B5 := BN
  clear BN
  clear hb
  go_wp2_with fail
  refine (toIntS_any _ l0 w_5 (HV0.out.below B5.out) hl0).mono ?_
  rintro e w_6 ⟨rfl, hr, hb⟩
  have Y := Lib.hid (CellRow.of_row hr)
  have X0z := Lib.hid (X0.out.below hb X0.out.1)
  clear X0
  have X0 := X0z
  clear X0z
  have BN := Lib.hid (B5.out.trans (hb.mono B5.out.size))
  clear B5
  have B6 := BN
  clear BN
  clear hr hb
  go_wp2_with fail
  refine (eqIntS_yes _ _ l0 w_6 (X0.out.flat (Nat.le_refl _)) (Y.out.flat (Nat.le_refl _)) hl0).mono ?_
  rintro e w_7 ⟨rfl, hb⟩
  have X0z := Lib.hid (X0.out.below hb X0.out.1)
  have Yz := Lib.hid (Y.out.below hb Y.out.1)
  clear X0
  have X0 := X0z
  clear X0z
  clear Y
  have Y := Yz
  clear Yz
  have BN := Lib.hid (B6.out.trans (hb.mono B6.out.size))
  clear B6
  have B7 := BN
  clear BN
  clear hb
  go_wp2_with fail
  clear Y
  refine (markIntS_any gx0 l0.length l0 (1) w_7 X0.out hl0 (by omega)).mono ?_
  rintro e w_8 ⟨rfl, _, hb⟩
  clear X0
  have BN := Lib.hid (B7.out.trans (hb.below lox0 B7.out.size))
  clear B7
  have B8 := BN
  clear BN
  clear hb
  go_wp2_with fail
  refine (eqIntSS_yes _ _ [] w_8 (rowsI0 _ _ _) (rowsI0 _ _ _) (by simp) (by simp)).mono ?_
  rintro e w_9 ⟨rfl, hb⟩
  have BN := Lib.hid (B8.out.trans (hb.mono B8.out.size))
  clear B8
  have B9 := BN
  clear BN
  clear hb
  go_wp2_with fail
  refine (markIntSS0_any _ _ w_9).mono ?_
  rintro e w_10 ⟨rfl, hb⟩
  have BN := Lib.hid (B9.out.trans (hb.mono B9.out.size))
  clear B9
  have B10 := BN
  clear BN
  clear hb
  go_wp2_with fail
  refine (heldIntSS0_any _ _ w_10).mono ?_
  rintro e w_11 ⟨rfl, hb⟩
  have BN := Lib.hid (B10.out.trans (hb.mono B10.out.size))
  clear B10
  have B11 := BN
  clear BN
  clear hb
  go_wp2_with fail
  refine (toIntS_any _ l0 w_11 (HV0.out.below B11.out) hl0).mono ?_
  rintro e w_12 ⟨rfl, hr, hb⟩
  have Z0 := Lib.hid (CellRow.of_row hr)
  have BN := Lib.hid (B11.out.trans (hb.mono B11.out.size))
  clear B11
  have B12 := BN
  clear BN
  clear hr hb
  go_wp2_with fail
  refine (HI.out _ _ _ w_12 (Z0.out.flat (Nat.le_refl _)) hl0).mono ?_
  rintro e w_13 ⟨agh, cgh, rfl, hb⟩
  simp only
  have Z0z := Lib.hid (Z0.out.below hb Z0.out.1)
  clear Z0
  have Z0 := Z0z
  clear Z0z
  have BN := Lib.hid (B12.out.trans (hb.mono B12.out.size))
  clear B12
  have B13 := BN
  clear BN
  clear hb
  clear Z0
  go_wp2_with fail
  refine (eqIntSS_yes _ _ [] w_13 (rowsI0 _ _ _) (rowsI0 _ _ _) (by simp) (by simp)).mono ?_
  rintro e w_14 ⟨rfl, hb⟩
  have BN := Lib.hid (B13.out.trans (hb.mono B13.out.size))
  clear B13
  have B14 := BN
  clear BN
  clear hb
  go_wp2_with fail
  refine (heldIntSS0_any _ _ w_14).mono ?_
  rintro e w_15 ⟨rfl, hb⟩
  have BN := Lib.hid (B14.out.trans (hb.mono B14.out.size))
  clear B14
  have B15 := BN
  clear BN
  clear hb
  go_wp2_with fail
  go_ret
  exact ⟨rfl, B15.out⟩

theorem walk (v0 : Value) (l0 : List Int) (w : World) (w0 : FlatAt w v0 l0.length (ints l0) ∧ l0.length ≤ maxLen) :
    Calls Try.prog 13 #[v0] w fun e w' => e = .returned (.bool true) ∧ Below w.heap.size w w' := by
  by_cases hr0 : (Iv.ppF l0).1 = []
  · exact walkZ v0 l0 w w0 hr0
  · exact walkS v0 l0 w w0 hr0

set_option maxRecDepth 100000 in
theorem lifted (os : Os) (started : os.Started) (H : Type) (enc : TypeId × Value → H) :
    ReturnsInHanded {} Try.checked os 13 .any (Rows.fnExactPatiencePilesSpec.pre6 enc Try.prog Try.f13 Rows.fnExactPatiencePilesRow.domain false) (Rows.fnExactPatiencePilesSpec.post enc Try.prog Try.f13 false true false false) := by
  refine returnsInHanded_of_change (C := Try.checked) own started (by kernel_rfl) Try.func13
    (ChangeSpec.witness6 (enc := enc) (C := Try.checked) false ⟨#[], #[.slice none 0 0], []⟩ 8 (by kernel_rfl) (by kernel_rfl) (by kernel_rfl) (by kernel_rfl)) ?_
  intro W base args ds gs before hval0 hW hcnd _
  have hval : ∀ (j : Nat) t v, Try.f13.params[j]? = some t → args[j]? = some v → Value.okWide Try.prog W .any base t v := hval0
  have hW' := hW
  obtain ⟨p, q, hA0, hV, rfl, hfz, hnd⟩ := hW
  have hA : DataW.TrodAll enc Try.prog W 0 (fun _ => true) true Try.f13.params.toList args.toList ds p := hA0
  rw [Try.params13] at hA hval
  obtain ⟨v0, vs0, d0, ds0, p0, q0, hargs, rfl, rfl, h0, r0⟩ := trodAll_cons hA
  obtain ⟨rfl, rfl, rfl⟩ := trodAll_nil r0
  obtain rfl : args = #[v0] := by cases args; simp_all
  obtain ⟨rfl, rfl⟩ := trodVars_none hV
  obtain ⟨a0, len0, cap0, rfl⟩ := okWide_slice Try.underlying24 (hval 0 24 v0 rfl rfl)
  have k0 := h0
  have lt0 : ∀ x ∈ p0, x.block < W.heap.size := by obtain ⟨m, hm⟩ := k0; exact DataW.trod_lt m _ _ _ hm
  obtain ⟨l0, w0⟩ : ∃ l : List Int, FlatAt W (.slice a0 len0 cap0) l.length (ints l) ∧ l.length ≤ maxLen := by
    obtain ⟨fuel, hf⟩ := h0
    obtain ⟨l, e, hm, hf⟩ := open_intl hf
    exact ⟨l, hf, by rw [e]; exact hm⟩
  clear hA0 hval0
  refine (walk (.slice a0 len0 cap0) l0 W w0).mono fun e W' ⟨he, bel⟩ => ?_
  subst he
  exact ⟨_, rfl, _, _, _, [], _, [], hW', trodAll_mk1 (shut_bool Try.underlying4 _), (trodAll_cons_mk (Below.trod laidOut (by kernel_rfl) (of_decide_eq_true (by kernel_rfl)) k0 bel lt0) trodAll_mk0), rfl, bel.frame _, fun h => by cases h⟩

theorem closed : joinedFacts Try.prog 13 Try.f13 Rows.fnExactPatiencePilesSpec Rows.fnExactPatiencePilesRow = true := by
  unfold joinedFacts
  rw [head_enter, head_final, head_make]
  kernel_rfl

theorem over : Rows.fnExactPatiencePilesRow.holds Try.pinned (OpenSpec.ofChange Rows.fnExactPatiencePilesSpec) :=
  OpenClaim.holds_of_wide 13 Try.f13 rfl rfl rfl rfl rfl rfl rfl ⟨rfl, rfl, rfl, rfl, rfl⟩ rfl rfl rfl rfl rfl (by kernel_rfl) Try.func13 closed
    (of_decide_eq_true (by kernel_rfl)) (by unfold Func.isWrapper; first | (rw [if_pos (by decide +kernel)]; kernel_rfl) | (rw [if_neg (by decide +kernel)]; exact ⟨rfl, rfl⟩))
    (fun os started H enc _ => lifted os started H enc)

theorem proved : Rows.FnExactPatiencePilesSaid := over
#print axioms proved
end Go.Proofs.Ytjlldjekjnlcaaa.fnExactPatiencePiles
