/- FnExactMergeSorted returns true at every input. No condition. -/
import Derived.Test.YtnjabdlhgmaeiaaRows
import Derived.WalkKit
import Derived.ProofKit
import Derived.OpenShut
import Derived.ShutString
import Derived.ChangeOld
import Derived.Below
import Derived.SliceStrings
import Derived.Test.YtnjabdlhgmaeiaaRecS
import Derived.Test.YtnjabdlhgmaeiaaRecSE
import Derived.Test.YtnjabdlhgmaeiaaRecSM
import Derived.Test.YtnjabdlhgmaeiaaRecSH
import Derived.Test.YtnjabdlhgmaeiaaOpenR
import Derived.Test.YtnjabdlhgmaeiaaIMergeS
import Derived.Test.YtnjabdlhgmaeiaaSMergeS
namespace Go.Proofs.Ytnjabdlhgmaeiaa.fnExactMergeSorted
open Go.ChangeShapes Go.WideShapes Go.ChangeAt Go.RowKit
open Go.ChangeMaps (open_string shut_string)
set_option linter.unusedVariables false

theorem own : ownKnob Try.prog.godebug = none := by kernel_rfl
theorem laidOut : laidOutB Try.prog = true := by kernel_rfl

set_option maxRecDepth 100000 in
set_option maxHeartbeats 8000000 in
theorem walk (v0 : Value) (l0 : List (Int × Int)) (v1 : Value) (l1 : List (Int × Int)) (w : World) (w0 : FlatAt w v0 l0.length (recs l0) ∧ l0.length ≤ maxLen) (w1 : FlatAt w v1 l1.length (recs l1) ∧ l1.length ≤ maxLen) :
    Calls Try.prog 10 #[v0, v1] w fun e w' => e = .returned (.bool true) ∧ Below w.heap.size w w' := by
  have hv0 := w0.1
  obtain ⟨s0, c0, rfl, hx0, hx1⟩ := w0.1
  clear hx0 hx1
  have hn0 := w0.2
  clear w0
  have HV0 := Lib.hid hv0
  clear hv0
  have hv1 := w1.1
  obtain ⟨s1, c1, rfl, hx0, hx1⟩ := w1.1
  clear hx0 hx1
  have hn1 := w1.2
  clear w1
  have HV1 := Lib.hid hv1
  clear hv1
  obtain ⟨R, hR⟩ : ∃ R, R = mergeAll l0 l1 := ⟨_, rfl⟩
  have HS : Hid (∀ (x0 o0 k0 : Nat) (x1 o1 k1 : Nat) (W : World) (h0 : FlatAt W (.slice (some ⟨x0, o0, none⟩) l0.length k0) l0.length (recs l0)) (h1 : FlatAt W (.slice (some ⟨x1, o1, none⟩) l1.length k1) l1.length (recs l1)) (b0 : l0.length ≤ 1048576) (b1 : l1.length ≤ 1048576), Calls Try.prog 25 #[(.slice (some ⟨x0, o0, none⟩) l0.length k0), (.slice (some ⟨x1, o1, none⟩) l1.length k1)] W (Ret1C R W)) := Lib.hid (fun x0 o0 k0 x1 o1 k1 W h0 h1 b0 b1 => by rw [hR]; exact specMergeS_any x0 o0 k0 l0 x1 o1 k1 l1 W h0 b0 h1 b1)
  have HI : Hid (∀ (x0 o0 k0 : Nat) (x1 o1 k1 : Nat) (W : World) (h0 : FlatAt W (.slice (some ⟨x0, o0, none⟩) l0.length k0) l0.length (recs l0)) (h1 : FlatAt W (.slice (some ⟨x1, o1, none⟩) l1.length k1) l1.length (recs l1)) (b0 : l0.length ≤ 1048576) (b1 : l1.length ≤ 1048576), Calls Try.prog 24 #[(.slice (some ⟨x0, o0, none⟩) l0.length k0), (.slice (some ⟨x1, o1, none⟩) l1.length k1)] W (Ret1C R W)) := Lib.hid (fun x0 o0 k0 x1 o1 k1 W h0 h1 b0 b1 => by rw [hR]; exact implMergeS_any x0 o0 k0 l0 x1 o1 k1 l1 W h0 b0 h1 b1)
  have hR1 : R.1.length ≤ 1048576 := by rw [hR]; exact (mergeAll_len l0 l1)
  clear hR
  obtain ⟨R1, R2, R3⟩ := R
  simp only at hR1
  by_cases hg0 : l0.length ≤ 1048576
  case neg =>
    clear HS HI
    have HSZ0 := Lib.hid (fun W => szRec_no s0 l0.length c0 1048576 W (by omega) (by omega) hn0)
    go_enter Try.func10, Try.ntmps10
    go_wp2_with fail
    refine (HSZ0.out _).mono ?_
    rintro e wz0 ⟨rfl, rfl⟩
    go_wp2_with fail
    go_ret
    exact ⟨rfl, Below.refl _ _⟩
  obtain ⟨r0, hr0⟩ : ∃ r, r = 1048576 - l0.length := ⟨_, rfl⟩
  by_cases hg1 : l1.length ≤ r0
  case neg =>
    clear HS HI
    have HSZ0 := Lib.hid (fun W => szRec_yes s0 l0.length c0 1048576 W hg0 (by omega))
    rw [← hr0] at HSZ0
    have HSZ1 := Lib.hid (fun W => szRec_no s1 l1.length c1 r0 W (by omega) (by omega) hn1)
    have hpos0 : ¬ ((r0 : Nat) : Int) < 0 := by omega
    clear hr0
    go_enter Try.func10, Try.ntmps10
    go_wp2_with fail
    refine (HSZ0.out _).mono ?_
    rintro e wz0 ⟨rfl, rfl⟩
    go_wp2_with fail
    refine (HSZ1.out _).mono ?_
    rintro e wz1 ⟨rfl, rfl⟩
    go_wp2_with fail
    go_ret
    exact ⟨rfl, Below.refl _ _⟩
  obtain ⟨r1, hr1⟩ : ∃ r, r = r0 - l1.length := ⟨_, rfl⟩
  have HSZ0 := Lib.hid (fun W => szRec_yes s0 l0.length c0 1048576 W hg0 (by omega))
  have HSZ1 := Lib.hid (fun W => szRec_yes s1 l1.length c1 r0 W hg1 (by omega))
  rw [← hr0] at HSZ0
  rw [← hr1] at HSZ1
  have hl0 : l0.length ≤ 1048576 := by omega
  have hl1 : l1.length ≤ 1048576 := by omega
  have hpos0 : ¬ ((r0 : Nat) : Int) < 0 := by omega
  have hpos1 : ¬ ((r1 : Nat) : Int) < 0 := by omega
  clear hg1 hr1 hn1 hg0 hr0 hn0
  go_enter Try.func10, Try.ntmps10
  go_wp2_with fail
  refine (HSZ0.out _).mono ?_
  rintro e wz0 ⟨rfl, rfl⟩
  clear HSZ0 hpos0
  go_wp2_with fail
  refine (HSZ1.out _).mono ?_
  rintro e wz1 ⟨rfl, rfl⟩
  clear HSZ1 hpos1
  go_wp2_with fail
  have B0 : Hid (Below wz1.heap.size wz1 wz1) := Lib.hid (Below.refl _ _)
  refine (toRecS_any _ l0 wz1 (HV0.out.below B0.out) hl0).mono ?_
  rintro e w_1 ⟨rfl, hr, hb⟩
  have S0 := Lib.hid (CellRow.of_row hr)
  have BN := Lib.hid (B0.out.trans (hb.mono B0.out.size))
  clear B0
  have B1 := BN
  clear BN
  clear hr hb
  go_wp2_with fail
  refine (toRecS_any _ l1 w_1 (HV1.out.below B1.out) hl1).mono ?_
  rintro e w_2 ⟨rfl, hr, hb⟩
  have S1 := Lib.hid (CellRow.of_row hr)
  have S0z := Lib.hid (S0.out.below hb S0.out.1)
  clear S0
  have S0 := S0z
  clear S0z
  have BN := Lib.hid (B1.out.trans (hb.mono B1.out.size))
  clear B1
  have B2 := BN
  clear BN
  clear hr hb
  go_wp2_with fail
  refine (HS.out _ _ _ _ _ _ w_2 (S0.out.flat (Nat.le_refl _)) (S1.out.flat (Nat.le_refl _)) hl0 hl1).mono ?_
  rintro e w_3 ⟨gw, cgw, rfl, hcgw, hggw, hrow, hb⟩
  simp only at hcgw hrow
  have Rgw := Lib.hid hrow
  have ltgwS0 := Nat.lt_of_lt_of_le S0.out.1 hggw
  have ltgwS1 := Nat.lt_of_lt_of_le S1.out.1 hggw
  have logw : wz1.heap.size ≤ gw := Nat.le_trans B2.out.size hggw
  have S0z := Lib.hid (S0.out.below hb S0.out.1)
  have S1z := Lib.hid (S1.out.below hb S1.out.1)
  clear S0
  have S0 := S0z
  clear S0z
  clear S1
  have S1 := S1z
  clear S1z
  have BN := Lib.hid (B2.out.trans (hb.mono B2.out.size))
  clear B2
  have B3 := BN
  clear BN
  clear hrow hb hggw
  clear S0 S1
  clear HS
  go_wp2_with fail
  refine (toRecS_any _ l0 w_3 (HV0.out.below B3.out) hl0).mono ?_
  rintro e w_4 ⟨rfl, hr, hb⟩
  have X0 := Lib.hid (CellRow.of_row hr)
  have lox0 : wz1.heap.size ≤ w_3.heap.size := B3.out.size
  have ltx0Rgw := Rgw.out.1
  have Rgwz := Lib.hid (Rgw.out.below hb Rgw.out.1)
  clear Rgw
  have Rgw := Rgwz
  clear Rgwz
  have BN := Lib.hid (B3.out.trans (hb.mono B3.out.size))
  clear B3
  have B4 := BN
  clear BN
  clear hr hb
  obtain ⟨gx0, hgxe⟩ : ∃ gx, gx = w_3.heap.size := ⟨_, rfl⟩
  rw [← hgxe] at X0 lox0 ltx0Rgw ⊢
  clear hgxe
  go_wp2_with fail
  refine (toRecS_any _ l1 w_4 (HV1.out.below B4.out) hl1).mono ?_
  rintro e w_5 ⟨rfl, hr, hb⟩
  have X1 := Lib.hid (CellRow.of_row hr)
  have lox1 : wz1.heap.size ≤ w_4.heap.size := B4.out.size
  have ltx1Rgw := Rgw.out.1
  have ltx1X0 := X0.out.1
  have Rgwz := Lib.hid (Rgw.out.below hb Rgw.out.1)
  have X0z := Lib.hid (X0.out.below hb X0.out.1)
  clear Rgw
  have Rgw := Rgwz
  clear Rgwz
  clear X0
  have X0 := X0z
  clear X0z
  have BN := Lib.hid (B4.out.trans (hb.mono B4.out.size))
  clear B4
  have B5 := BN
  clear BN
  clear hr hb
  obtain ⟨gx1, hgxe⟩ : ∃ gx, gx = w_4.heap.size := ⟨_, rfl⟩
  rw [← hgxe] at X1 lox1 ltx1Rgw ltx1X0 ⊢
  clear hgxe
  go_wp2_with fail
  refine (HI.out _ _ _ _ _ _ w_5 (X0.out.flat (Nat.le_refl _)) (X1.out.flat (Nat.le_refl _)) hl0 hl1).mono ?_
  rintro e w_6 ⟨g, cg, rfl, hcg, hgg, hrow, hb⟩
  simp only at hcg hrow
  have Rg := Lib.hid hrow
  have ltgRgw := Nat.lt_of_lt_of_le Rgw.out.1 hgg
  have ltgX0 := Nat.lt_of_lt_of_le X0.out.1 hgg
  have ltgX1 := Nat.lt_of_lt_of_le X1.out.1 hgg
  have log : wz1.heap.size ≤ g := Nat.le_trans B5.out.size hgg
  have Rgwz := Lib.hid (Rgw.out.below hb Rgw.out.1)
  have X0z := Lib.hid (X0.out.below hb X0.out.1)
  have X1z := Lib.hid (X1.out.below hb X1.out.1)
  clear Rgw
  have Rgw := Rgwz
  clear Rgwz
  clear X0
  have X0 := X0z
  clear X0z
  clear X1
  have X1 := X1z
  clear X1z
  have BN := Lib.hid (B5.out.trans (hb.mono B5.out.size))
  clear B5
  have B6 := BN
  clear BN
  clear hrow hb hgg
  go_wp2_with fail
  refine (eqRecS_yes _ _ R1 w_6 (Rg.out.flat hcg) (Rgw.out.flat hcgw) hR1).mono ?_
  rintro e w_7 ⟨rfl, hb⟩
  have Rgwz := Lib.hid (Rgw.out.below hb Rgw.out.1)
  have X0z := Lib.hid (X0.out.below hb X0.out.1)
  have X1z := Lib.hid (X1.out.below hb X1.out.1)
  have Rgz := Lib.hid (Rg.out.below hb Rg.out.1)
  clear Rgw
  have Rgw := Rgwz
  clear Rgwz
  clear X0
  have X0 := X0z
  clear X0z
  clear X1
  have X1 := X1z
  clear X1z
  clear Rg
  have Rg := Rgz
  clear Rgz
  have BN := Lib.hid (B6.out.trans (hb.mono B6.out.size))
  clear B6
  have B7 := BN
  clear BN
  clear hb
  go_wp2_with fail
  refine (toRecS_any _ l0 w_7 (HV0.out.below B7.out) hl0).mono ?_
  rintro e w_8 ⟨rfl, hr, hb⟩
  have Y := Lib.hid (CellRow.of_row hr)
  have Rgwz := Lib.hid (Rgw.out.below hb Rgw.out.1)
  have X0z := Lib.hid (X0.out.below hb X0.out.1)
  have X1z := Lib.hid (X1.out.below hb X1.out.1)
  have Rgz := Lib.hid (Rg.out.below hb Rg.out.1)
  clear Rgw
  have Rgw := Rgwz
  clear Rgwz
  clear X0
  have X0 := X0z
  clear X0z
  clear X1
  have X1 := X1z
  clear X1z
  clear Rg
  have Rg := Rgz
  clear Rgz
  have BN := Lib.hid (B7.out.trans (hb.mono B7.out.size))
  clear B7
  have B8 := BN
  clear BN
  clear hr hb
  go_wp2_with fail
  refine (eqRecS_yes _ _ l0 w_8 (X0.out.flat (Nat.le_refl _)) (Y.out.flat (Nat.le_refl _)) hl0).mono ?_
  rintro e w_9 ⟨rfl, hb⟩
  have Rgwz := Lib.hid (Rgw.out.below hb Rgw.out.1)
  have X0z := Lib.hid (X0.out.below hb X0.out.1)
  have X1z := Lib.hid (X1.out.below hb X1.out.1)
  have Rgz := Lib.hid (Rg.out.below hb Rg.out.1)
  have Yz := Lib.hid (Y.out.below hb Y.out.1)
  clear Rgw
  have Rgw := Rgwz
  clear Rgwz
  clear X0
  have X0 := X0z
  clear X0z
  clear X1
  have X1 := X1z
  clear X1z
  clear Rg
  have Rg := Rgz
  clear Rgz
  clear Y
  have Y := Yz
  clear Yz
  have BN := Lib.hid (B8.out.trans (hb.mono B8.out.size))
  clear B8
  have B9 := BN
  clear BN
  clear hb
  go_wp2_with fail
  clear Y
  refine (toRecS_any _ l1 w_9 (HV1.out.below B9.out) hl1).mono ?_
  rintro e w_10 ⟨rfl, hr, hb⟩
  have Y := Lib.hid (CellRow.of_row hr)
  have Rgwz := Lib.hid (Rgw.out.below hb Rgw.out.1)
  have X0z := Lib.hid (X0.out.below hb X0.out.1)
  have X1z := Lib.hid (X1.out.below hb X1.out.1)
  have Rgz := Lib.hid (Rg.out.below hb Rg.out.1)
  clear Rgw
  have Rgw := Rgwz
  clear Rgwz
  clear X0
  have X0 := X0z
  clear X0z
  clear X1
  have X1 := X1z
  clear X1z
  clear Rg
  have Rg := Rgz
  clear Rgz
  have BN := Lib.hid (B9.out.trans (hb.mono B9.out.size))
  clear B9
  have B10 := BN
  clear BN
  clear hr hb
  go_wp2_with fail
  refine (eqRecS_yes _ _ l1 w_10 (X1.out.flat (Nat.le_refl _)) (Y.out.flat (Nat.le_refl _)) hl1).mono ?_
  rintro e w_11 ⟨rfl, hb⟩
  have Rgwz := Lib.hid (Rgw.out.below hb Rgw.out.1)
  have X0z := Lib.hid (X0.out.below hb X0.out.1)
  have X1z := Lib.hid (X1.out.below hb X1.out.1)
  have Rgz := Lib.hid (Rg.out.below hb Rg.out.1)
  have Yz := Lib.hid (Y.out.below hb Y.out.1)
  clear Rgw
  have Rgw := Rgwz
  clear Rgwz
  clear X0
  have X0 := X0z
  clear X0z
  clear X1
  have X1 := X1z
  clear X1z
  clear Rg
  have Rg := Rgz
  clear Rgz
  clear Y
  have Y := Yz
  clear Yz
  have BN := Lib.hid (B10.out.trans (hb.mono B10.out.size))
  clear B10
  have B11 := BN
  clear BN
  clear hb
  go_wp2_with fail
  clear Y
  refine (markRecS_any gx0 l0.length l0 (1) w_11 X0.out hl0 (by omega)).mono ?_
  rintro e w_12 ⟨rfl, _, hb⟩
  clear X0
  have Rgwz := Lib.hid (Rgw.out.but hb (by omega))
  have X1z := Lib.hid (X1.out.but hb (by omega))
  have Rgz := Lib.hid (Rg.out.but hb (by omega))
  clear Rgw
  have Rgw := Rgwz
  clear Rgwz
  clear X1
  have X1 := X1z
  clear X1z
  clear Rg
  have Rg := Rgz
  clear Rgz
  have BN := Lib.hid (B11.out.trans (hb.below lox0 B11.out.size))
  clear B11
  have B12 := BN
  clear BN
  clear hb
  go_wp2_with fail
  refine (markRecS_any gx1 l1.length l1 (1 + 2 * l0.length) w_12 X1.out hl1 (by omega)).mono ?_
  rintro e w_13 ⟨rfl, _, hb⟩
  clear X1
  have Rgwz := Lib.hid (Rgw.out.but hb (by omega))
  have Rgz := Lib.hid (Rg.out.but hb (by omega))
  clear Rgw
  have Rgw := Rgwz
  clear Rgwz
  clear Rg
  have Rg := Rgz
  clear Rgz
  have BN := Lib.hid (B12.out.trans (hb.below lox1 B12.out.size))
  clear B12
  have B13 := BN
  clear BN
  clear hb
  go_wp2_with fail
  refine (eqRecS_yes _ _ R1 w_13 (Rg.out.flat hcg) (Rgw.out.flat hcgw) hR1).mono ?_
  rintro e w_14 ⟨rfl, hb⟩
  have Rgwz := Lib.hid (Rgw.out.below hb Rgw.out.1)
  have Rgz := Lib.hid (Rg.out.below hb Rg.out.1)
  clear Rgw
  have Rgw := Rgwz
  clear Rgwz
  clear Rg
  have Rg := Rgz
  clear Rgz
  have BN := Lib.hid (B13.out.trans (hb.mono B13.out.size))
  clear B13
  have B14 := BN
  clear BN
  clear hb
  go_wp2_with fail
  refine (markRecS_any g cg R1 1 w_14 Rg.out hR1 (by omega)).mono ?_
  rintro e w_15 ⟨rfl, hr, hb⟩
  clear Rg
  have Rgwz := Lib.hid (Rgw.out.but hb (by omega))
  clear Rgw
  have Rgw := Rgwz
  clear Rgwz
  have BN := Lib.hid (B14.out.trans (hb.below log B14.out.size))
  clear B14
  have B15 := BN
  clear BN
  have Rg := Lib.hid hr
  clear hr hb
  go_wp2_with fail
  refine (heldRecS_any g cg R1.length 1 w_15 Rg.out hR1 (by omega)).mono ?_
  rintro e w_16 ⟨rfl, hb⟩
  have Rgwz := Lib.hid (Rgw.out.below hb Rgw.out.1)
  have Rgz := Lib.hid (Rg.out.below hb Rg.out.1)
  clear Rgw
  have Rgw := Rgwz
  clear Rgwz
  clear Rg
  have Rg := Rgz
  clear Rgz
  have BN := Lib.hid (B15.out.trans (hb.mono B15.out.size))
  clear B15
  have B16 := BN
  clear BN
  clear hb
  go_wp2_with fail
  refine (toRecS_any _ l0 w_16 (HV0.out.below B16.out) hl0).mono ?_
  rintro e w_17 ⟨rfl, hr, hb⟩
  have Z0 := Lib.hid (CellRow.of_row hr)
  have Rgwz := Lib.hid (Rgw.out.below hb Rgw.out.1)
  have Rgz := Lib.hid (Rg.out.below hb Rg.out.1)
  clear Rgw
  have Rgw := Rgwz
  clear Rgwz
  clear Rg
  have Rg := Rgz
  clear Rgz
  have BN := Lib.hid (B16.out.trans (hb.mono B16.out.size))
  clear B16
  have B17 := BN
  clear BN
  clear hr hb
  go_wp2_with fail
  refine (toRecS_any _ l1 w_17 (HV1.out.below B17.out) hl1).mono ?_
  rintro e w_18 ⟨rfl, hr, hb⟩
  have Z1 := Lib.hid (CellRow.of_row hr)
  have Rgwz := Lib.hid (Rgw.out.below hb Rgw.out.1)
  have Rgz := Lib.hid (Rg.out.below hb Rg.out.1)
  have Z0z := Lib.hid (Z0.out.below hb Z0.out.1)
  clear Rgw
  have Rgw := Rgwz
  clear Rgwz
  clear Rg
  have Rg := Rgz
  clear Rgz
  clear Z0
  have Z0 := Z0z
  clear Z0z
  have BN := Lib.hid (B17.out.trans (hb.mono B17.out.size))
  clear B17
  have B18 := BN
  clear BN
  clear hr hb
  go_wp2_with fail
  refine (HI.out _ _ _ _ _ _ w_18 (Z0.out.flat (Nat.le_refl _)) (Z1.out.flat (Nat.le_refl _)) hl0 hl1).mono ?_
  rintro e w_19 ⟨gh, cgh, rfl, hcgh, hggh, hrow, hb⟩
  simp only at hcgh hrow
  have Rgh := Lib.hid hrow
  have ltghRgw := Nat.lt_of_lt_of_le Rgw.out.1 hggh
  have ltghRg := Nat.lt_of_lt_of_le Rg.out.1 hggh
  have ltghZ0 := Nat.lt_of_lt_of_le Z0.out.1 hggh
  have ltghZ1 := Nat.lt_of_lt_of_le Z1.out.1 hggh
  have logh : wz1.heap.size ≤ gh := Nat.le_trans B18.out.size hggh
  have Rgwz := Lib.hid (Rgw.out.below hb Rgw.out.1)
  have Rgz := Lib.hid (Rg.out.below hb Rg.out.1)
  have Z0z := Lib.hid (Z0.out.below hb Z0.out.1)
  have Z1z := Lib.hid (Z1.out.below hb Z1.out.1)
  clear Rgw
  have Rgw := Rgwz
  clear Rgwz
  clear Rg
  have Rg := Rgz
  clear Rgz
  clear Z0
  have Z0 := Z0z
  clear Z0z
  clear Z1
  have Z1 := Z1z
  clear Z1z
  have BN := Lib.hid (B18.out.trans (hb.mono B18.out.size))
  clear B18
  have B19 := BN
  clear BN
  clear hrow hb hggh
  clear Z0 Z1
  go_wp2_with fail
  refine (eqRecS_yes _ _ R1 w_19 (Rgh.out.flat hcgh) (Rgw.out.flat hcgw) hR1).mono ?_
  rintro e w_20 ⟨rfl, hb⟩
  have Rgwz := Lib.hid (Rgw.out.below hb Rgw.out.1)
  have Rgz := Lib.hid (Rg.out.below hb Rg.out.1)
  have Rghz := Lib.hid (Rgh.out.below hb Rgh.out.1)
  clear Rgw
  have Rgw := Rgwz
  clear Rgwz
  clear Rg
  have Rg := Rgz
  clear Rgz
  clear Rgh
  have Rgh := Rghz
  clear Rghz
  have BN := Lib.hid (B19.out.trans (hb.mono B19.out.size))
  clear B19
  have B20 := BN
  clear BN
  clear hb
  go_wp2_with fail
  refine (heldRecS_any g cg R1.length 1 w_20 Rg.out hR1 (by omega)).mono ?_
  rintro e w_21 ⟨rfl, hb⟩
  have Rgwz := Lib.hid (Rgw.out.below hb Rgw.out.1)
  have Rgz := Lib.hid (Rg.out.below hb Rg.out.1)
  have Rghz := Lib.hid (Rgh.out.below hb Rgh.out.1)
  clear Rgw
  have Rgw := Rgwz
  clear Rgwz
  clear Rg
  have Rg := Rgz
  clear Rgz
  clear Rgh
  have Rgh := Rghz
  clear Rghz
  have BN := Lib.hid (B20.out.trans (hb.mono B20.out.size))
  clear B20
  have B21 := BN
  clear BN
  clear hb
  go_wp2_with fail
  go_ret
  exact ⟨rfl, B21.out⟩

set_option maxRecDepth 100000 in
theorem lifted (os : Os) (started : os.Started) (H : Type) (enc : TypeId × Value → H) :
    ReturnsInHanded {} Try.checked os 10 .any (Rows.fnExactMergeSortedSpec.pre6 enc Try.prog Try.f10 Rows.fnExactMergeSortedRow.domain false) (Rows.fnExactMergeSortedSpec.post enc Try.prog Try.f10 false true false false) := by
  refine returnsInHanded_of_change (C := Try.checked) own started (by kernel_rfl) Try.func10
    (ChangeSpec.witness6 (enc := enc) (C := Try.checked) false ⟨#[], #[.slice none 0 0, .slice none 0 0], []⟩ 8 (by kernel_rfl) (by kernel_rfl) (by kernel_rfl) (by kernel_rfl)) ?_
  intro W base args ds gs before hval0 hW hcnd _
  have hval : ∀ (j : Nat) t v, Try.f10.params[j]? = some t → args[j]? = some v → Value.okWide Try.prog W .any base t v := hval0
  have hW' := hW
  obtain ⟨p, q, hA0, hV, rfl, hfz, hnd⟩ := hW
  have hA : DataW.TrodAll enc Try.prog W 0 (fun _ => true) true Try.f10.params.toList args.toList ds p := hA0
  rw [Try.params10] at hA hval
  obtain ⟨v0, vs0, d0, ds0, p0, q0, hargs, rfl, rfl, h0, r0⟩ := trodAll_cons hA
  obtain ⟨v1, vs1, d1, ds1, p1, q1, rfl, rfl, rfl, h1, r1⟩ := trodAll_cons r0
  obtain ⟨rfl, rfl, rfl⟩ := trodAll_nil r1
  obtain rfl : args = #[v0, v1] := by cases args; simp_all
  obtain ⟨rfl, rfl⟩ := trodVars_none hV
  obtain ⟨a0, len0, cap0, rfl⟩ := okWide_slice Try.underlying58 (hval 0 58 v0 rfl rfl)
  have k0 := h0
  have lt0 : ∀ x ∈ p0, x.block < W.heap.size := by obtain ⟨m, hm⟩ := k0; exact DataW.trod_lt m _ _ _ hm
  obtain ⟨l0, w0⟩ : ∃ l : List (Int × Int), FlatAt W (.slice a0 len0 cap0) l.length (recs l) ∧ l.length ≤ maxLen := by
    obtain ⟨fuel, hf⟩ := h0
    obtain ⟨l, e, hm, hf⟩ := open_recs hf
    exact ⟨l, hf, by rw [e]; exact hm⟩
  obtain ⟨a1, len1, cap1, rfl⟩ := okWide_slice Try.underlying58 (hval 1 58 v1 rfl rfl)
  have k1 := h1
  have lt1 : ∀ x ∈ p1, x.block < W.heap.size := by obtain ⟨m, hm⟩ := k1; exact DataW.trod_lt m _ _ _ hm
  obtain ⟨l1, w1⟩ : ∃ l : List (Int × Int), FlatAt W (.slice a1 len1 cap1) l.length (recs l) ∧ l.length ≤ maxLen := by
    obtain ⟨fuel, hf⟩ := h1
    obtain ⟨l, e, hm, hf⟩ := open_recs hf
    exact ⟨l, hf, by rw [e]; exact hm⟩
  clear hA0 hval0
  refine (walk (.slice a0 len0 cap0) l0 (.slice a1 len1 cap1) l1 W w0 w1).mono fun e W' ⟨he, bel⟩ => ?_
  subst he
  exact ⟨_, rfl, _, _, _, [], _, [], hW', trodAll_mk1 (shut_bool Try.underlying4 _), (trodAll_cons_mk (Below.trod laidOut (by kernel_rfl) (of_decide_eq_true (by kernel_rfl)) k0 bel lt0) (trodAll_cons_mk (Below.trod laidOut (by kernel_rfl) (of_decide_eq_true (by kernel_rfl)) k1 bel lt1) trodAll_mk0)), rfl, bel.frame _, fun h => by cases h⟩

theorem over : Rows.fnExactMergeSortedRow.holds Try.pinned (OpenSpec.ofChange Rows.fnExactMergeSortedSpec) :=
  OpenClaim.holds_of_wide 10 Try.f10 rfl rfl rfl rfl rfl rfl rfl ⟨rfl, rfl, rfl, rfl, rfl⟩ rfl rfl rfl rfl rfl (by kernel_rfl) Try.func10 (by kernel_rfl)
    (of_decide_eq_true (by kernel_rfl)) (by unfold Func.isWrapper; first | (rw [if_pos (by decide +kernel)]; kernel_rfl) | (rw [if_neg (by decide +kernel)]; exact ⟨rfl, rfl⟩))
    (fun os started H enc _ => lifted os started H enc)

theorem proved : Rows.FnExactMergeSortedSaid := over
#print axioms proved
end Go.Proofs.Ytnjabdlhgmaeiaa.fnExactMergeSorted
