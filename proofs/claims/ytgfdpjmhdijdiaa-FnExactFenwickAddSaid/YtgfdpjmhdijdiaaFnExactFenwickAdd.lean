/- FnExactFenwickAdd returns true at every input. No condition. -/
import Derived.Test.YtgfdpjmhdijdiaaRows
import Derived.WalkKit
import Derived.ProofKit
import Derived.OpenShut
import Derived.ShutString
import Derived.ChangeOld
import Derived.Below
import Derived.SliceStrings
import Derived.Test.YtgfdpjmhdijdiaaHead
import Derived.Test.YtgfdpjmhdijdiaaIntS
import Derived.Test.YtgfdpjmhdijdiaaIntSE
import Derived.Test.YtgfdpjmhdijdiaaIntSM
import Derived.Test.YtgfdpjmhdijdiaaIntSH
import Derived.Test.YtgfdpjmhdijdiaaFen
import Derived.Test.YtgfdpjmhdijdiaaFenM
import Derived.Test.YtgfdpjmhdijdiaaOpenFen
import Derived.Test.YtgfdpjmhdijdiaaIFa
import Derived.Test.YtgfdpjmhdijdiaaSFa
namespace Go.Proofs.Ytgfdpjmhdijdiaa.fnExactFenwickAdd
open Go.ChangeShapes Go.WideShapes Go.ChangeAt Go.RowKit
open Go.ChangeMaps (open_string shut_string)
set_option linter.unusedVariables false

theorem own : ownKnob Try.prog.godebug = none := by kernel_rfl
theorem laidOut : laidOutB Try.prog = true := by kernel_rfl

set_option maxRecDepth 100000 in
set_option maxHeartbeats 4000000 in
theorem walkS (v0 : Value) (l0 : List Int) (a1 : Int) (a2 : Int) (w : World) (w0 : FlatAt w v0 l0.length (ints l0) ∧ l0.length ≤ maxLen ∧ Fw.IsW l0) (w1 : (Lit.int .i64 a1).wf = true) (w2 : (Lit.int .i64 a2).wf = true) (hr0 : (Fw.addF l0 a1 a2).1 ≠ []) :
    Calls Try.prog 13 #[.agg #[v0], .int .i64 a1, .int .i64 a2] w fun e w' => e = .returned (.bool true) ∧ Below w.heap.size w w' := by
  have hv0 := w0.1
  obtain ⟨s0, c0, rfl, hx0, hx1⟩ := w0.1
  clear hx0 hx1
  have hn0 := w0.2.1
  have hi0 := w0.2.2
  unfold maxLen at hn0
  clear w0
  have HV0 := Lib.hid hv0
  clear hv0
  obtain ⟨R, hR⟩ : ∃ R, R = Fw.addF l0 a1 a2 := ⟨_, rfl⟩
  have HS : Hid (∀ (x0 o0 k0 : Nat) (W : World) (h0 : FlatAt W (.slice (some ⟨x0, o0, none⟩) l0.length k0) l0.length (ints l0)) (b0 : l0.length ≤ 1048576), Calls Try.prog 62 #[(.agg #[(.slice (some ⟨x0, o0, none⟩) l0.length k0)]), .int .i64 a1, .int .i64 a2] W (RetFen2 R W)) := Lib.hid (fun x0 o0 k0 W h0 b0 => by rw [hR]; exact (fun x0 o0 k0 l0 a1 a2 W h0 b0 i0 w1 w2 hr => ((fun x o k l a b W h b0 i _ w2 => specFa_any x o k l a b W h b0 i (wf64 w2)) x0 o0 k0 l0 a1 a2 W h0 b0 i0 w1 w2).mono fun _ _ q => q.own hr) x0 o0 k0 l0 a1 a2 W h0 b0 hi0 w1 w2 hr0)
  have HI : Hid (∀ (x0 o0 k0 : Nat) (W : World) (h0 : FlatAt W (.slice (some ⟨x0, o0, none⟩) l0.length k0) l0.length (ints l0)) (b0 : l0.length ≤ 1048576), Calls Try.prog 49 #[(.agg #[(.slice (some ⟨x0, o0, none⟩) l0.length k0)]), .int .i64 a1, .int .i64 a2] W (RetFen2 R W)) := Lib.hid (fun x0 o0 k0 W h0 b0 => by rw [hR]; exact (fun x0 o0 k0 l0 a1 a2 W h0 b0 i0 w1 w2 hr => ((fun x o k l a b W h b0 i _ w2 => implFa_any x o k l a b W h b0 i (wf64 w2)) x0 o0 k0 l0 a1 a2 W h0 b0 i0 w1 w2).mono fun _ _ q => q.own hr) x0 o0 k0 l0 a1 a2 W h0 b0 hi0 w1 w2 hr0)
  have HLEN : Hid (∀ (b0 : l0.length ≤ 1048576), R.1.length ≤ 1048576) := Lib.hid (fun b0 => by rw [hR]; exact (addF_len l0 a1 a2 b0))
  clear hR hr0
  obtain ⟨R1, R2, R3⟩ := R
  obtain ⟨wb, hWb, hxb, hzb, hbb⟩ := box1 w 66 (.slice s0 l0.length c0)
  by_cases hl0 : l0.length ≤ 1048576
  case neg =>
    clear HS HI HLEN
    have hg0 : (1048576 : Int) < l0.length := by omega
    have hlm0 : l0.length ≤ 9223372036854775807 := by omega
    have HSZ := Lib.hid (szFenwick_any _ l0 1048576 wb (HV0.out.below hbb) hlm0 (by decide) (by decide))
    rw [if_pos hg0] at HSZ
    have HBB := Lib.hid hbb
    clear hbb hxb
    go_enter Try.func13, Try.ntmps13
    go_wp2_with fail
    rw [← hWb]
    refine HSZ.out.mono ?_
    rintro e w_1 ⟨rfl, hb⟩
    have HB := Lib.hid (HBB.out.trans (hb.mono HBB.out.size))
    clear hb
    go_wp2_with fail
    go_ret
    exact ⟨rfl, HB.out⟩
  have hR1 : R1.length ≤ 1048576 := HLEN.out hl0
  clear HLEN
  have B0 : Hid (Below w.heap.size w wb) := Lib.hid hbb
  have XB := Lib.hid hxb
  have hcXB := Boxed.cell XB.out
  clear hbb hxb
  go_enter Try.func13, Try.ntmps13
  go_wp2_with fail
  rw [← hWb]
  have hsz0 : ¬ 1048576 - (l0.length : Int) < 0 := by omega
  have hsy0 : ¬ (1048576 : Int) < l0.length := by omega
  have hlm0 : l0.length ≤ 9223372036854775807 := by omega
  have HSZ := Lib.hid (szFenwick_any _ l0 1048576 wb (HV0.out.below B0.out) hlm0 (by decide) (by decide))
  rw [if_neg hsy0] at HSZ
  refine HSZ.out.mono ?_
  rintro e w_1 ⟨rfl, hb⟩
  clear HSZ
  have XBz := Lib.hid (boxed_below XB.out hb (Boxed.lt XB.out))
  clear XB
  have XB := XBz
  clear XBz
  clear hcXB
  have hcXB := Boxed.cell XB.out
  have BN := Lib.hid (B0.out.trans (hb.mono B0.out.size))
  clear B0
  have B1 := BN
  clear BN
  clear hb
  go_wp2_with fail
  refine (toFenwick_any _ l0 w_1 (HV0.out.below B1.out) hl0).mono ?_
  rintro e w_2 ⟨gcS02, hgc, rfl, hr, hb⟩
  clear hgc
  have S0 := Lib.hid hr
  have XBz := Lib.hid (boxed_below XB.out hb (Boxed.lt XB.out))
  clear XB
  have XB := XBz
  clear XBz
  clear hcXB
  have hcXB := Boxed.cell XB.out
  have BN := Lib.hid (B1.out.trans (hb.mono B1.out.size))
  clear B1
  have B2 := BN
  clear BN
  clear hr hb
  go_wp2_with fail
  refine (HS.out _ _ _ w_2 (S0.out.flat (Nat.le_refl _)) hl0).mono ?_
  rintro e w_3 ⟨gw, cgw, rfl, hcgw, hggw, hrow, hb⟩
  simp only at hcgw hrow
  have Rgw := Lib.hid hrow
  have ltgwXB := Nat.lt_of_lt_of_le (Boxed.lt XB.out) hggw
  have ltgwS0 := Nat.lt_of_lt_of_le S0.out.1 hggw
  have logw : w.heap.size ≤ gw := Nat.le_trans B2.out.size hggw
  have XBz := Lib.hid (boxed_below XB.out hb (Boxed.lt XB.out))
  have S0z := Lib.hid (S0.out.below hb S0.out.1)
  clear XB
  have XB := XBz
  clear XBz
  clear hcXB
  have hcXB := Boxed.cell XB.out
  clear S0
  have S0 := S0z
  clear S0z
  have BN := Lib.hid (B2.out.trans (hb.mono B2.out.size))
  clear B2
  have B3 := BN
  clear BN
  clear hrow hb hggw
  obtain ⟨w_4, hWN, hxN, hzN, hb⟩ := box1 w_3 53 (.slice (some ⟨gw, 0, none⟩) R1.length cgw)
  have ltVgwXB := (Boxed.lt XB.out)
  have ltVgwS0 := S0.out.1
  have ltVgwRgw := Rgw.out.1
  have XBz := Lib.hid (boxed_below XB.out hb (Boxed.lt XB.out))
  have S0z := Lib.hid (S0.out.below hb S0.out.1)
  have Rgwz := Lib.hid (Rgw.out.below hb Rgw.out.1)
  clear XB
  have XB := XBz
  clear XBz
  clear hcXB
  have hcXB := Boxed.cell XB.out
  clear S0
  have S0 := S0z
  clear S0z
  clear Rgw
  have Rgw := Rgwz
  clear Rgwz
  have BN := Lib.hid (B3.out.trans (hb.mono B3.out.size))
  clear B3
  have B4 := BN
  clear BN
  have Vgw := Lib.hid hxN
  have hcVgw := Boxed.cell Vgw.out
  have hWrVgw := hWN.symm
  clear hWN hxN hzN hb
  skip
  clear S0
  clear HS
  go_wp2_with fail
  refine (toFenwick_any _ l0 w_4 (HV0.out.below B4.out) hl0).mono ?_
  rintro e w_5 ⟨gx0, hgc, rfl, hr, hb⟩
  have X0 := Lib.hid hr
  have lox0 : w.heap.size ≤ gx0 := Nat.le_trans B4.out.size hgc
  have ltx0XB := Nat.lt_of_lt_of_le (Boxed.lt XB.out) hgc
  have ltx0Rgw := Nat.lt_of_lt_of_le Rgw.out.1 hgc
  have ltx0Vgw := Nat.lt_of_lt_of_le (Boxed.lt Vgw.out) hgc
  have XBz := Lib.hid (boxed_below XB.out hb (Boxed.lt XB.out))
  have Vgwz := Lib.hid (boxed_below Vgw.out hb (Boxed.lt Vgw.out))
  have Rgwz := Lib.hid (Rgw.out.below hb Rgw.out.1)
  clear XB
  have XB := XBz
  clear XBz
  clear hcXB
  have hcXB := Boxed.cell XB.out
  clear Rgw
  have Rgw := Rgwz
  clear Rgwz
  clear Vgw
  have Vgw := Vgwz
  clear Vgwz
  clear hcVgw
  have hcVgw := Boxed.cell Vgw.out
  have BN := Lib.hid (B4.out.trans (hb.mono B4.out.size))
  clear B4
  have B5 := BN
  clear BN
  clear hr hb hgc
  obtain ⟨w_6, hWN, hxN, hzN, hb⟩ := box1 w_5 53 (.slice (some ⟨gx0, 0, none⟩) l0.length l0.length)
  have ltXXXB := (Boxed.lt XB.out)
  have ltXXRgw := Rgw.out.1
  have ltXXVgw := (Boxed.lt Vgw.out)
  have ltXXX0 := X0.out.1
  have XBz := Lib.hid (boxed_below XB.out hb (Boxed.lt XB.out))
  have Vgwz := Lib.hid (boxed_below Vgw.out hb (Boxed.lt Vgw.out))
  have Rgwz := Lib.hid (Rgw.out.below hb Rgw.out.1)
  have X0z := Lib.hid (X0.out.below hb X0.out.1)
  clear XB
  have XB := XBz
  clear XBz
  clear hcXB
  have hcXB := Boxed.cell XB.out
  clear Rgw
  have Rgw := Rgwz
  clear Rgwz
  clear Vgw
  have Vgw := Vgwz
  clear Vgwz
  clear hcVgw
  have hcVgw := Boxed.cell Vgw.out
  clear X0
  have X0 := X0z
  clear X0z
  have BN := Lib.hid (B5.out.trans (hb.mono B5.out.size))
  clear B5
  have B6 := BN
  clear BN
  have XX := Lib.hid hxN
  have hcXX := Boxed.cell XX.out
  have hWrXX := hWN.symm
  clear hWN hxN hzN hb
  skip
  go_wp2_with fail
  clear hWrXX
  refine (HI.out _ _ _ w_6 (X0.out.flat (Nat.le_refl _)) hl0).mono ?_
  rintro e w_7 ⟨g, cg, rfl, hcg, hgg, hrow, hb⟩
  simp only at hcg hrow
  have Rg := Lib.hid hrow
  have ltgXB := Nat.lt_of_lt_of_le (Boxed.lt XB.out) hgg
  have ltgRgw := Nat.lt_of_lt_of_le Rgw.out.1 hgg
  have ltgVgw := Nat.lt_of_lt_of_le (Boxed.lt Vgw.out) hgg
  have ltgX0 := Nat.lt_of_lt_of_le X0.out.1 hgg
  have ltgXX := Nat.lt_of_lt_of_le (Boxed.lt XX.out) hgg
  have log : w.heap.size ≤ g := Nat.le_trans B6.out.size hgg
  have XBz := Lib.hid (boxed_below XB.out hb (Boxed.lt XB.out))
  have Vgwz := Lib.hid (boxed_below Vgw.out hb (Boxed.lt Vgw.out))
  have XXz := Lib.hid (boxed_below XX.out hb (Boxed.lt XX.out))
  have Rgwz := Lib.hid (Rgw.out.below hb Rgw.out.1)
  have X0z := Lib.hid (X0.out.below hb X0.out.1)
  clear XB
  have XB := XBz
  clear XBz
  clear hcXB
  have hcXB := Boxed.cell XB.out
  clear Rgw
  have Rgw := Rgwz
  clear Rgwz
  clear Vgw
  have Vgw := Vgwz
  clear Vgwz
  clear hcVgw
  have hcVgw := Boxed.cell Vgw.out
  clear X0
  have X0 := X0z
  clear X0z
  clear XX
  have XX := XXz
  clear XXz
  clear hcXX
  have hcXX := Boxed.cell XX.out
  have BN := Lib.hid (B6.out.trans (hb.mono B6.out.size))
  clear B6
  have B7 := BN
  clear BN
  clear hrow hb hgg
  obtain ⟨w_8, hWN, hxN, hzN, hb⟩ := box1 w_7 53 (.slice (some ⟨g, 0, none⟩) R1.length cg)
  have ltVgXB := (Boxed.lt XB.out)
  have ltVgRgw := Rgw.out.1
  have ltVgVgw := (Boxed.lt Vgw.out)
  have ltVgX0 := X0.out.1
  have ltVgXX := (Boxed.lt XX.out)
  have ltVgRg := Rg.out.1
  have XBz := Lib.hid (boxed_below XB.out hb (Boxed.lt XB.out))
  have Vgwz := Lib.hid (boxed_below Vgw.out hb (Boxed.lt Vgw.out))
  have XXz := Lib.hid (boxed_below XX.out hb (Boxed.lt XX.out))
  have Rgwz := Lib.hid (Rgw.out.below hb Rgw.out.1)
  have X0z := Lib.hid (X0.out.below hb X0.out.1)
  have Rgz := Lib.hid (Rg.out.below hb Rg.out.1)
  clear XB
  have XB := XBz
  clear XBz
  clear hcXB
  have hcXB := Boxed.cell XB.out
  clear Rgw
  have Rgw := Rgwz
  clear Rgwz
  clear Vgw
  have Vgw := Vgwz
  clear Vgwz
  clear hcVgw
  have hcVgw := Boxed.cell Vgw.out
  clear X0
  have X0 := X0z
  clear X0z
  clear XX
  have XX := XXz
  clear XXz
  clear hcXX
  have hcXX := Boxed.cell XX.out
  clear Rg
  have Rg := Rgz
  clear Rgz
  have BN := Lib.hid (B7.out.trans (hb.mono B7.out.size))
  clear B7
  have B8 := BN
  clear BN
  have Vg := Lib.hid hxN
  have hcVg := Boxed.cell Vg.out
  have hWrVg := hWN.symm
  clear hWN hxN hzN hb
  skip
  go_wp2_with fail
  refine (eqFenwick_yes _ _ R1 w_8 (Rg.out.flat hcg) (Rgw.out.flat hcgw) hR1).mono ?_
  rintro e w_9 ⟨rfl, hb⟩
  have XBz := Lib.hid (boxed_below XB.out hb (Boxed.lt XB.out))
  have Vgwz := Lib.hid (boxed_below Vgw.out hb (Boxed.lt Vgw.out))
  have XXz := Lib.hid (boxed_below XX.out hb (Boxed.lt XX.out))
  have Vgz := Lib.hid (boxed_below Vg.out hb (Boxed.lt Vg.out))
  have Rgwz := Lib.hid (Rgw.out.below hb Rgw.out.1)
  have X0z := Lib.hid (X0.out.below hb X0.out.1)
  have Rgz := Lib.hid (Rg.out.below hb Rg.out.1)
  clear XB
  have XB := XBz
  clear XBz
  clear hcXB
  have hcXB := Boxed.cell XB.out
  clear Rgw
  have Rgw := Rgwz
  clear Rgwz
  clear Vgw
  have Vgw := Vgwz
  clear Vgwz
  clear hcVgw
  have hcVgw := Boxed.cell Vgw.out
  clear X0
  have X0 := X0z
  clear X0z
  clear XX
  have XX := XXz
  clear XXz
  clear hcXX
  have hcXX := Boxed.cell XX.out
  clear Rg
  have Rg := Rgz
  clear Rgz
  clear Vg
  have Vg := Vgz
  clear Vgz
  clear hcVg
  have hcVg := Boxed.cell Vg.out
  have BN := Lib.hid (B8.out.trans (hb.mono B8.out.size))
  clear B8
  have B9 := BN
  clear BN
  clear hb
  go_upto_region 10 with fail
  have HCMP : Hid (∀ W2, Below w_9.heap.size w_9 W2 → Calls Try.prog 55 #[.agg #[.slice s0 l0.length c0]] W2 fun e w' => ∃ gy, e = .returned (.agg #[.slice (some ⟨gy, 0, none⟩) l0.length l0.length]) ∧ w'.cell? ⟨w_5.heap.size, 0, none⟩ = some (.slice (some ⟨gx0, 0, none⟩) l0.length l0.length) ∧ ∀ W3, Below w'.heap.size w' W3 → Calls Try.prog 56 #[.agg #[.slice (some ⟨gx0, 0, none⟩) l0.length l0.length], .agg #[.slice (some ⟨gy, 0, none⟩) l0.length l0.length]] W3 fun e w4 => e = .returned (.bool true) ∧ Below w_9.heap.size w_9 w4) := Lib.hid (fun W2 h2 => (toFenwick_any _ l0 W2 (HV0.out.below (B9.out.trans (h2.mono B9.out.size))) hl0).mono (by
      rintro e w' ⟨gy, hgy, rfl, hry, hby⟩
      refine ⟨gy, rfl, Boxed.cell (boxed_below (boxed_below XX.out h2 (Boxed.lt XX.out)) hby (Boxed.lt (boxed_below XX.out h2 (Boxed.lt XX.out)))), fun W3 h3 => ?_⟩
      have hX2 := X0.out.below h2 X0.out.1
      have hX3 := hX2.below hby hX2.1
      refine (eqFenwick_yes _ _ l0 W3 ((hX3.below h3 hX3.1).flat (Nat.le_refl _)) ((hry.below h3 hry.1).flat (Nat.le_refl _)) hl0).mono ?_
      rintro e w4 ⟨rfl, h4⟩
      exact ⟨rfl, h2.trans ((hby.mono h2.size).trans ((h3.mono (Nat.le_trans h2.size hby.size)).trans (h4.mono (Nat.le_trans h2.size (Nat.le_trans hby.size h3.size)))))⟩))
  go_cut [63] from 59 to 63 (fun u wx => u = .bool false ∧ Below w_9.heap.size w_9 wx)
  case first =>
    clear Rgw
    clear Vgw
    clear X0
    clear Rg
    clear Vg
    go_region_with (first | (go_at_call 55; refine (HCMP.out _ (by first | exact Below.refl _ _ | exact ⟨rfl, rfl, rfl, Nat.le_refl _, fun _ _ => rfl⟩)).mono ?_; rintro e wa ⟨gy, rfl, hcy, HE⟩) | (go_at_call 56; refine (HE _ (by first | exact Below.refl _ _ | exact ⟨rfl, rfl, rfl, Nat.le_refl _, fun _ _ => rfl⟩)).mono ?_; rintro e wb4 ⟨rfl, hb4⟩))
    all_goals (
      go_wp2_with fail
      go_meet
      first | exact ⟨rfl, hb4⟩ | exact ⟨rfl, hb4.trans ⟨rfl, rfl, rfl, Nat.le_refl _, fun _ _ => rfl⟩⟩)
  case rest =>
    obtain ⟨rfl, hb⟩ := hcut
    clear HCMP
    obtain ⟨w_10, hwc⟩ : ∃ x, x = wc := ⟨_, rfl⟩
    rw [← hwc] at hb ⊢
    clear hwc
    have XBz := Lib.hid (boxed_below XB.out hb (Boxed.lt XB.out))
    have Vgwz := Lib.hid (boxed_below Vgw.out hb (Boxed.lt Vgw.out))
    have XXz := Lib.hid (boxed_below XX.out hb (Boxed.lt XX.out))
    have Vgz := Lib.hid (boxed_below Vg.out hb (Boxed.lt Vg.out))
    have Rgwz := Lib.hid (Rgw.out.below hb Rgw.out.1)
    have X0z := Lib.hid (X0.out.below hb X0.out.1)
    have Rgz := Lib.hid (Rg.out.below hb Rg.out.1)
    clear XB
    have XB := XBz
    clear XBz
    clear hcXB
    have hcXB := Boxed.cell XB.out
    clear Rgw
    have Rgw := Rgwz
    clear Rgwz
    clear Vgw
    have Vgw := Vgwz
    clear Vgwz
    clear hcVgw
    have hcVgw := Boxed.cell Vgw.out
    clear X0
    have X0 := X0z
    clear X0z
    clear XX
    have XX := XXz
    clear XXz
    clear hcXX
    have hcXX := Boxed.cell XX.out
    clear Rg
    have Rg := Rgz
    clear Rgz
    clear Vg
    have Vg := Vgz
    clear Vgz
    clear hcVg
    have hcVg := Boxed.cell Vg.out
    have BN := Lib.hid (B9.out.trans (hb.mono B9.out.size))
    clear B9
    have B10 := BN
    clear BN
    clear hb
    go_wp2_with fail
    refine (markFenwick_any gx0 l0.length l0 (1) w_10 X0.out hl0 (by omega)).mono ?_
    rintro e w_11 ⟨rfl, _, hb⟩
    clear X0
    have XBz := Lib.hid ((hb.block _ (Boxed.lt XB.out) (by omega)).trans XB.out)
    have Vgwz := Lib.hid ((hb.block _ (Boxed.lt Vgw.out) (by omega)).trans Vgw.out)
    have XXz := Lib.hid ((hb.block _ (Boxed.lt XX.out) (by omega)).trans XX.out)
    have Vgz := Lib.hid ((hb.block _ (Boxed.lt Vg.out) (by omega)).trans Vg.out)
    have Rgwz := Lib.hid (Rgw.out.but hb (by omega))
    have Rgz := Lib.hid (Rg.out.but hb (by omega))
    clear XB
    have XB := XBz
    clear XBz
    clear hcXB
    have hcXB := Boxed.cell XB.out
    clear Rgw
    have Rgw := Rgwz
    clear Rgwz
    clear Vgw
    have Vgw := Vgwz
    clear Vgwz
    clear hcVgw
    have hcVgw := Boxed.cell Vgw.out
    clear XX
    have XX := XXz
    clear XXz
    clear hcXX
    have hcXX := Boxed.cell XX.out
    clear Rg
    have Rg := Rgz
    clear Rgz
    clear Vg
    have Vg := Vgz
    clear Vgz
    clear hcVg
    have hcVg := Boxed.cell Vg.out
    have BN := Lib.hid (B10.out.trans (hb.below lox0 B10.out.size))
    clear B10
    have B11 := BN
    clear BN
    clear hb
    go_wp2_with fail
    refine (eqFenwick_yes _ _ R1 w_11 (Rg.out.flat hcg) (Rgw.out.flat hcgw) hR1).mono ?_
    rintro e w_12 ⟨rfl, hb⟩
    have XBz := Lib.hid (boxed_below XB.out hb (Boxed.lt XB.out))
    have Vgwz := Lib.hid (boxed_below Vgw.out hb (Boxed.lt Vgw.out))
    have XXz := Lib.hid (boxed_below XX.out hb (Boxed.lt XX.out))
    have Vgz := Lib.hid (boxed_below Vg.out hb (Boxed.lt Vg.out))
    have Rgwz := Lib.hid (Rgw.out.below hb Rgw.out.1)
    have Rgz := Lib.hid (Rg.out.below hb Rg.out.1)
    clear XB
    have XB := XBz
    clear XBz
    clear hcXB
    have hcXB := Boxed.cell XB.out
    clear Rgw
    have Rgw := Rgwz
    clear Rgwz
    clear Vgw
    have Vgw := Vgwz
    clear Vgwz
    clear hcVgw
    have hcVgw := Boxed.cell Vgw.out
    clear XX
    have XX := XXz
    clear XXz
    clear hcXX
    have hcXX := Boxed.cell XX.out
    clear Rg
    have Rg := Rgz
    clear Rgz
    clear Vg
    have Vg := Vgz
    clear Vgz
    clear hcVg
    have hcVg := Boxed.cell Vg.out
    have BN := Lib.hid (B11.out.trans (hb.mono B11.out.size))
    clear B11
    have B12 := BN
    clear BN
    clear hb
    go_wp2_with fail
    refine (markFenwick_any g cg R1 1 w_12 Rg.out hR1 (by omega)).mono ?_
    rintro e w_13 ⟨rfl, hr, hb⟩
    clear Rg
    have XBz := Lib.hid ((hb.block _ (Boxed.lt XB.out) (by omega)).trans XB.out)
    have Vgwz := Lib.hid ((hb.block _ (Boxed.lt Vgw.out) (by omega)).trans Vgw.out)
    have XXz := Lib.hid ((hb.block _ (Boxed.lt XX.out) (by omega)).trans XX.out)
    have Vgz := Lib.hid ((hb.block _ (Boxed.lt Vg.out) (by omega)).trans Vg.out)
    have Rgwz := Lib.hid (Rgw.out.but hb (by omega))
    clear XB
    have XB := XBz
    clear XBz
    clear hcXB
    have hcXB := Boxed.cell XB.out
    clear Rgw
    have Rgw := Rgwz
    clear Rgwz
    clear Vgw
    have Vgw := Vgwz
    clear Vgwz
    clear hcVgw
    have hcVgw := Boxed.cell Vgw.out
    clear XX
    have XX := XXz
    clear XXz
    clear hcXX
    have hcXX := Boxed.cell XX.out
    clear Vg
    have Vg := Vgz
    clear Vgz
    clear hcVg
    have hcVg := Boxed.cell Vg.out
    have BN := Lib.hid (B12.out.trans (hb.below log B12.out.size))
    clear B12
    have B13 := BN
    clear BN
    have Rg := Lib.hid hr
    clear hr hb
    go_wp2_with fail
    refine (heldFenwick_any g cg R1.length 1 w_13 Rg.out hR1 (by omega)).mono ?_
    rintro e w_14 ⟨rfl, hb⟩
    have XBz := Lib.hid (boxed_below XB.out hb (Boxed.lt XB.out))
    have Vgwz := Lib.hid (boxed_below Vgw.out hb (Boxed.lt Vgw.out))
    have XXz := Lib.hid (boxed_below XX.out hb (Boxed.lt XX.out))
    have Vgz := Lib.hid (boxed_below Vg.out hb (Boxed.lt Vg.out))
    have Rgwz := Lib.hid (Rgw.out.below hb Rgw.out.1)
    have Rgz := Lib.hid (Rg.out.below hb Rg.out.1)
    clear XB
    have XB := XBz
    clear XBz
    clear hcXB
    have hcXB := Boxed.cell XB.out
    clear Rgw
    have Rgw := Rgwz
    clear Rgwz
    clear Vgw
    have Vgw := Vgwz
    clear Vgwz
    clear hcVgw
    have hcVgw := Boxed.cell Vgw.out
    clear XX
    have XX := XXz
    clear XXz
    clear hcXX
    have hcXX := Boxed.cell XX.out
    clear Vg
    have Vg := Vgz
    clear Vgz
    clear hcVg
    have hcVg := Boxed.cell Vg.out
    clear Rg
    have Rg := Rgz
    clear Rgz
    have BN := Lib.hid (B13.out.trans (hb.mono B13.out.size))
    clear B13
    have B14 := BN
    clear BN
    clear hb
    go_wp2_with fail
    refine (toFenwick_any _ l0 w_14 (HV0.out.below B14.out) hl0).mono ?_
    rintro e w_15 ⟨gcZ015, hgc, rfl, hr, hb⟩
    clear hgc
    have Z0 := Lib.hid hr
    have XBz := Lib.hid (boxed_below XB.out hb (Boxed.lt XB.out))
    have Vgwz := Lib.hid (boxed_below Vgw.out hb (Boxed.lt Vgw.out))
    have XXz := Lib.hid (boxed_below XX.out hb (Boxed.lt XX.out))
    have Vgz := Lib.hid (boxed_below Vg.out hb (Boxed.lt Vg.out))
    have Rgwz := Lib.hid (Rgw.out.below hb Rgw.out.1)
    have Rgz := Lib.hid (Rg.out.below hb Rg.out.1)
    clear XB
    have XB := XBz
    clear XBz
    clear hcXB
    have hcXB := Boxed.cell XB.out
    clear Rgw
    have Rgw := Rgwz
    clear Rgwz
    clear Vgw
    have Vgw := Vgwz
    clear Vgwz
    clear hcVgw
    have hcVgw := Boxed.cell Vgw.out
    clear XX
    have XX := XXz
    clear XXz
    clear hcXX
    have hcXX := Boxed.cell XX.out
    clear Vg
    have Vg := Vgz
    clear Vgz
    clear hcVg
    have hcVg := Boxed.cell Vg.out
    clear Rg
    have Rg := Rgz
    clear Rgz
    have BN := Lib.hid (B14.out.trans (hb.mono B14.out.size))
    clear B14
    have B15 := BN
    clear BN
    clear hr hb
    go_wp2_with fail
    refine (HI.out _ _ _ w_15 (Z0.out.flat (Nat.le_refl _)) hl0).mono ?_
    rintro e w_16 ⟨gh, cgh, rfl, hcgh, hggh, hrow, hb⟩
    simp only at hcgh hrow
    have Rgh := Lib.hid hrow
    have ltghXB := Nat.lt_of_lt_of_le (Boxed.lt XB.out) hggh
    have ltghRgw := Nat.lt_of_lt_of_le Rgw.out.1 hggh
    have ltghVgw := Nat.lt_of_lt_of_le (Boxed.lt Vgw.out) hggh
    have ltghXX := Nat.lt_of_lt_of_le (Boxed.lt XX.out) hggh
    have ltghVg := Nat.lt_of_lt_of_le (Boxed.lt Vg.out) hggh
    have ltghRg := Nat.lt_of_lt_of_le Rg.out.1 hggh
    have ltghZ0 := Nat.lt_of_lt_of_le Z0.out.1 hggh
    have logh : w.heap.size ≤ gh := Nat.le_trans B15.out.size hggh
    have XBz := Lib.hid (boxed_below XB.out hb (Boxed.lt XB.out))
    have Vgwz := Lib.hid (boxed_below Vgw.out hb (Boxed.lt Vgw.out))
    have XXz := Lib.hid (boxed_below XX.out hb (Boxed.lt XX.out))
    have Vgz := Lib.hid (boxed_below Vg.out hb (Boxed.lt Vg.out))
    have Rgwz := Lib.hid (Rgw.out.below hb Rgw.out.1)
    have Rgz := Lib.hid (Rg.out.below hb Rg.out.1)
    have Z0z := Lib.hid (Z0.out.below hb Z0.out.1)
    clear XB
    have XB := XBz
    clear XBz
    clear hcXB
    have hcXB := Boxed.cell XB.out
    clear Rgw
    have Rgw := Rgwz
    clear Rgwz
    clear Vgw
    have Vgw := Vgwz
    clear Vgwz
    clear hcVgw
    have hcVgw := Boxed.cell Vgw.out
    clear XX
    have XX := XXz
    clear XXz
    clear hcXX
    have hcXX := Boxed.cell XX.out
    clear Vg
    have Vg := Vgz
    clear Vgz
    clear hcVg
    have hcVg := Boxed.cell Vg.out
    clear Rg
    have Rg := Rgz
    clear Rgz
    clear Z0
    have Z0 := Z0z
    clear Z0z
    have BN := Lib.hid (B15.out.trans (hb.mono B15.out.size))
    clear B15
    have B16 := BN
    clear BN
    clear hrow hb hggh
    obtain ⟨w_17, hWN, hxN, hzN, hb⟩ := box1 w_16 53 (.slice (some ⟨gh, 0, none⟩) R1.length cgh)
    have ltVghXB := (Boxed.lt XB.out)
    have ltVghRgw := Rgw.out.1
    have ltVghVgw := (Boxed.lt Vgw.out)
    have ltVghXX := (Boxed.lt XX.out)
    have ltVghVg := (Boxed.lt Vg.out)
    have ltVghRg := Rg.out.1
    have ltVghZ0 := Z0.out.1
    have ltVghRgh := Rgh.out.1
    have XBz := Lib.hid (boxed_below XB.out hb (Boxed.lt XB.out))
    have Vgwz := Lib.hid (boxed_below Vgw.out hb (Boxed.lt Vgw.out))
    have XXz := Lib.hid (boxed_below XX.out hb (Boxed.lt XX.out))
    have Vgz := Lib.hid (boxed_below Vg.out hb (Boxed.lt Vg.out))
    have Rgwz := Lib.hid (Rgw.out.below hb Rgw.out.1)
    have Rgz := Lib.hid (Rg.out.below hb Rg.out.1)
    have Z0z := Lib.hid (Z0.out.below hb Z0.out.1)
    have Rghz := Lib.hid (Rgh.out.below hb Rgh.out.1)
    clear XB
    have XB := XBz
    clear XBz
    clear hcXB
    have hcXB := Boxed.cell XB.out
    clear Rgw
    have Rgw := Rgwz
    clear Rgwz
    clear Vgw
    have Vgw := Vgwz
    clear Vgwz
    clear hcVgw
    have hcVgw := Boxed.cell Vgw.out
    clear XX
    have XX := XXz
    clear XXz
    clear hcXX
    have hcXX := Boxed.cell XX.out
    clear Vg
    have Vg := Vgz
    clear Vgz
    clear hcVg
    have hcVg := Boxed.cell Vg.out
    clear Rg
    have Rg := Rgz
    clear Rgz
    clear Z0
    have Z0 := Z0z
    clear Z0z
    clear Rgh
    have Rgh := Rghz
    clear Rghz
    have BN := Lib.hid (B16.out.trans (hb.mono B16.out.size))
    clear B16
    have B17 := BN
    clear BN
    have Vgh := Lib.hid hxN
    have hcVgh := Boxed.cell Vgh.out
    have hWrVgh := hWN.symm
    clear hWN hxN hzN hb
    skip
    clear Z0
    go_wp2_with fail
    refine (eqFenwick_yes _ _ R1 w_17 (Rgh.out.flat hcgh) (Rgw.out.flat hcgw) hR1).mono ?_
    rintro e w_18 ⟨rfl, hb⟩
    have XBz := Lib.hid (boxed_below XB.out hb (Boxed.lt XB.out))
    have Vgwz := Lib.hid (boxed_below Vgw.out hb (Boxed.lt Vgw.out))
    have XXz := Lib.hid (boxed_below XX.out hb (Boxed.lt XX.out))
    have Vgz := Lib.hid (boxed_below Vg.out hb (Boxed.lt Vg.out))
    have Vghz := Lib.hid (boxed_below Vgh.out hb (Boxed.lt Vgh.out))
    have Rgwz := Lib.hid (Rgw.out.below hb Rgw.out.1)
    have Rgz := Lib.hid (Rg.out.below hb Rg.out.1)
    have Rghz := Lib.hid (Rgh.out.below hb Rgh.out.1)
    clear XB
    have XB := XBz
    clear XBz
    clear hcXB
    have hcXB := Boxed.cell XB.out
    clear Rgw
    have Rgw := Rgwz
    clear Rgwz
    clear Vgw
    have Vgw := Vgwz
    clear Vgwz
    clear hcVgw
    have hcVgw := Boxed.cell Vgw.out
    clear XX
    have XX := XXz
    clear XXz
    clear hcXX
    have hcXX := Boxed.cell XX.out
    clear Vg
    have Vg := Vgz
    clear Vgz
    clear hcVg
    have hcVg := Boxed.cell Vg.out
    clear Rg
    have Rg := Rgz
    clear Rgz
    clear Rgh
    have Rgh := Rghz
    clear Rghz
    clear Vgh
    have Vgh := Vghz
    clear Vghz
    clear hcVgh
    have hcVgh := Boxed.cell Vgh.out
    have BN := Lib.hid (B17.out.trans (hb.mono B17.out.size))
    clear B17
    have B18 := BN
    clear BN
    clear hb
    go_wp2_with fail
    refine (heldFenwick_any g cg R1.length 1 w_18 Rg.out hR1 (by omega)).mono ?_
    rintro e w_19 ⟨rfl, hb⟩
    have XBz := Lib.hid (boxed_below XB.out hb (Boxed.lt XB.out))
    have Vgwz := Lib.hid (boxed_below Vgw.out hb (Boxed.lt Vgw.out))
    have XXz := Lib.hid (boxed_below XX.out hb (Boxed.lt XX.out))
    have Vgz := Lib.hid (boxed_below Vg.out hb (Boxed.lt Vg.out))
    have Vghz := Lib.hid (boxed_below Vgh.out hb (Boxed.lt Vgh.out))
    have Rgwz := Lib.hid (Rgw.out.below hb Rgw.out.1)
    have Rgz := Lib.hid (Rg.out.below hb Rg.out.1)
    have Rghz := Lib.hid (Rgh.out.below hb Rgh.out.1)
    clear XB
    have XB := XBz
    clear XBz
    clear hcXB
    have hcXB := Boxed.cell XB.out
    clear Rgw
    have Rgw := Rgwz
    clear Rgwz
    clear Vgw
    have Vgw := Vgwz
    clear Vgwz
    clear hcVgw
    have hcVgw := Boxed.cell Vgw.out
    clear XX
    have XX := XXz
    clear XXz
    clear hcXX
    have hcXX := Boxed.cell XX.out
    clear Vg
    have Vg := Vgz
    clear Vgz
    clear hcVg
    have hcVg := Boxed.cell Vg.out
    clear Rg
    have Rg := Rgz
    clear Rgz
    clear Rgh
    have Rgh := Rghz
    clear Rghz
    clear Vgh
    have Vgh := Vghz
    clear Vghz
    clear hcVgh
    have hcVgh := Boxed.cell Vgh.out
    have BN := Lib.hid (B18.out.trans (hb.mono B18.out.size))
    clear B18
    have B19 := BN
    clear BN
    clear hb
    go_wp2_with fail
    go_ret
    exact ⟨rfl, B19.out⟩

set_option maxRecDepth 100000 in
set_option maxHeartbeats 4000000 in
theorem walkZ (v0 : Value) (l0 : List Int) (a1 : Int) (a2 : Int) (w : World) (w0 : FlatAt w v0 l0.length (ints l0) ∧ l0.length ≤ maxLen ∧ Fw.IsW l0) (w1 : (Lit.int .i64 a1).wf = true) (w2 : (Lit.int .i64 a2).wf = true) (hr0 : (Fw.addF l0 a1 a2).1 = []) :
    Calls Try.prog 13 #[.agg #[v0], .int .i64 a1, .int .i64 a2] w fun e w' => e = .returned (.bool true) ∧ Below w.heap.size w w' := by
  have hv0 := w0.1
  obtain ⟨s0, c0, rfl, hx0, hx1⟩ := w0.1
  clear hx0 hx1
  have hn0 := w0.2.1
  have hi0 := w0.2.2
  unfold maxLen at hn0
  clear w0
  have HV0 := Lib.hid hv0
  clear hv0
  obtain ⟨R, hR⟩ : ∃ R, R = Fw.addF l0 a1 a2 := ⟨_, rfl⟩
  have HS : Hid (∀ (x0 o0 k0 : Nat) (W : World) (h0 : FlatAt W (.slice (some ⟨x0, o0, none⟩) l0.length k0) l0.length (ints l0)) (b0 : l0.length ≤ 1048576), Calls Try.prog 62 #[(.agg #[(.slice (some ⟨x0, o0, none⟩) l0.length k0)]), .int .i64 a1, .int .i64 a2] W (RetFenZ2 R.2.1 R.2.2 W)) := Lib.hid (fun x0 o0 k0 W h0 b0 => by rw [hR]; exact (fun x0 o0 k0 l0 a1 a2 W h0 b0 i0 w1 w2 hr => ((fun x o k l a b W h b0 i _ w2 => specFa_any x o k l a b W h b0 i (wf64 w2)) x0 o0 k0 l0 a1 a2 W h0 b0 i0 w1 w2).mono fun _ _ q => q.zero hr) x0 o0 k0 l0 a1 a2 W h0 b0 hi0 w1 w2 hr0)
  have HI : Hid (∀ (x0 o0 k0 : Nat) (W : World) (h0 : FlatAt W (.slice (some ⟨x0, o0, none⟩) l0.length k0) l0.length (ints l0)) (b0 : l0.length ≤ 1048576), Calls Try.prog 49 #[(.agg #[(.slice (some ⟨x0, o0, none⟩) l0.length k0)]), .int .i64 a1, .int .i64 a2] W (RetFenZ2 R.2.1 R.2.2 W)) := Lib.hid (fun x0 o0 k0 W h0 b0 => by rw [hR]; exact (fun x0 o0 k0 l0 a1 a2 W h0 b0 i0 w1 w2 hr => ((fun x o k l a b W h b0 i _ w2 => implFa_any x o k l a b W h b0 i (wf64 w2)) x0 o0 k0 l0 a1 a2 W h0 b0 i0 w1 w2).mono fun _ _ q => q.zero hr) x0 o0 k0 l0 a1 a2 W h0 b0 hi0 w1 w2 hr0)
  clear hR hr0
  obtain ⟨R1, R2, R3⟩ := R
  obtain ⟨wb, hWb, hxb, hzb, hbb⟩ := box1 w 66 (.slice s0 l0.length c0)
  by_cases hl0 : l0.length ≤ 1048576
  case neg =>
    clear HS HI
    have hg0 : (1048576 : Int) < l0.length := by omega
    have hlm0 : l0.length ≤ 9223372036854775807 := by omega
    have HSZ := Lib.hid (szFenwick_any _ l0 1048576 wb (HV0.out.below hbb) hlm0 (by decide) (by decide))
    rw [if_pos hg0] at HSZ
    have HBB := Lib.hid hbb
    clear hbb hxb
    go_enter Try.func13, Try.ntmps13
    go_wp2_with fail
    rw [← hWb]
    refine HSZ.out.mono ?_
    rintro e w_1 ⟨rfl, hb⟩
    have HB := Lib.hid (HBB.out.trans (hb.mono HBB.out.size))
    clear hb
    go_wp2_with fail
    go_ret
    exact ⟨rfl, HB.out⟩
  have B0 : Hid (Below w.heap.size w wb) := Lib.hid hbb
  have XB := Lib.hid hxb
  have hcXB := Boxed.cell XB.out
  clear hbb hxb
  go_enter Try.func13, Try.ntmps13
  go_wp2_with fail
  rw [← hWb]
  have hsz0 : ¬ 1048576 - (l0.length : Int) < 0 := by omega
  have hsy0 : ¬ (1048576 : Int) < l0.length := by omega
  have hlm0 : l0.length ≤ 9223372036854775807 := by omega
  have HSZ := Lib.hid (szFenwick_any _ l0 1048576 wb (HV0.out.below B0.out) hlm0 (by decide) (by decide))
  rw [if_neg hsy0] at HSZ
  refine HSZ.out.mono ?_
  rintro e w_1 ⟨rfl, hb⟩
  clear HSZ
  have XBz := Lib.hid (boxed_below XB.out hb (Boxed.lt XB.out))
  clear XB
  have XB := XBz
  clear XBz
  clear hcXB
  have hcXB := Boxed.cell XB.out
  have BN := Lib.hid (B0.out.trans (hb.mono B0.out.size))
  clear B0
  have B1 := BN
  clear BN
  clear hb
  go_wp2_with fail
  refine (toFenwick_any _ l0 w_1 (HV0.out.below B1.out) hl0).mono ?_
  rintro e w_2 ⟨gcS02, hgc, rfl, hr, hb⟩
  clear hgc
  have S0 := Lib.hid hr
  have XBz := Lib.hid (boxed_below XB.out hb (Boxed.lt XB.out))
  clear XB
  have XB := XBz
  clear XBz
  clear hcXB
  have hcXB := Boxed.cell XB.out
  have BN := Lib.hid (B1.out.trans (hb.mono B1.out.size))
  clear B1
  have B2 := BN
  clear BN
  clear hr hb
  go_wp2_with fail
  refine (HS.out _ _ _ w_2 (S0.out.flat (Nat.le_refl _)) hl0).mono ?_
  rintro e w_3 ⟨agw, cgw, rfl, hb⟩
  simp only
  have XBz := Lib.hid (boxed_below XB.out hb (Boxed.lt XB.out))
  have S0z := Lib.hid (S0.out.below hb S0.out.1)
  clear XB
  have XB := XBz
  clear XBz
  clear hcXB
  have hcXB := Boxed.cell XB.out
  clear S0
  have S0 := S0z
  clear S0z
  have BN := Lib.hid (B2.out.trans (hb.mono B2.out.size))
  clear B2
  have B3 := BN
  clear BN
  clear hb
  obtain ⟨w_4, hWN, hxN, hzN, hb⟩ := box1 w_3 53 (.slice agw 0 cgw)
  have ltVgwXB := (Boxed.lt XB.out)
  have ltVgwS0 := S0.out.1
  have XBz := Lib.hid (boxed_below XB.out hb (Boxed.lt XB.out))
  have S0z := Lib.hid (S0.out.below hb S0.out.1)
  clear XB
  have XB := XBz
  clear XBz
  clear hcXB
  have hcXB := Boxed.cell XB.out
  clear S0
  have S0 := S0z
  clear S0z
  have BN := Lib.hid (B3.out.trans (hb.mono B3.out.size))
  clear B3
  have B4 := BN
  clear BN
  have Vgw := Lib.hid hxN
  have hcVgw := Boxed.cell Vgw.out
  have hWrVgw := hWN.symm
  clear hWN hxN hzN hb
  skip
  clear S0
  clear HS
  go_wp2_with fail
  refine (toFenwick_any _ l0 w_4 (HV0.out.below B4.out) hl0).mono ?_
  rintro e w_5 ⟨gx0, hgc, rfl, hr, hb⟩
  have X0 := Lib.hid hr
  have lox0 : w.heap.size ≤ gx0 := Nat.le_trans B4.out.size hgc
  have ltx0XB := Nat.lt_of_lt_of_le (Boxed.lt XB.out) hgc
  have ltx0Vgw := Nat.lt_of_lt_of_le (Boxed.lt Vgw.out) hgc
  have XBz := Lib.hid (boxed_below XB.out hb (Boxed.lt XB.out))
  have Vgwz := Lib.hid (boxed_below Vgw.out hb (Boxed.lt Vgw.out))
  clear XB
  have XB := XBz
  clear XBz
  clear hcXB
  have hcXB := Boxed.cell XB.out
  clear Vgw
  have Vgw := Vgwz
  clear Vgwz
  clear hcVgw
  have hcVgw := Boxed.cell Vgw.out
  have BN := Lib.hid (B4.out.trans (hb.mono B4.out.size))
  clear B4
  have B5 := BN
  clear BN
  clear hr hb hgc
  obtain ⟨w_6, hWN, hxN, hzN, hb⟩ := box1 w_5 53 (.slice (some ⟨gx0, 0, none⟩) l0.length l0.length)
  have ltXXXB := (Boxed.lt XB.out)
  have ltXXVgw := (Boxed.lt Vgw.out)
  have ltXXX0 := X0.out.1
  have XBz := Lib.hid (boxed_below XB.out hb (Boxed.lt XB.out))
  have Vgwz := Lib.hid (boxed_below Vgw.out hb (Boxed.lt Vgw.out))
  have X0z := Lib.hid (X0.out.below hb X0.out.1)
  clear XB
  have XB := XBz
  clear XBz
  clear hcXB
  have hcXB := Boxed.cell XB.out
  clear Vgw
  have Vgw := Vgwz
  clear Vgwz
  clear hcVgw
  have hcVgw := Boxed.cell Vgw.out
  clear X0
  have X0 := X0z
  clear X0z
  have BN := Lib.hid (B5.out.trans (hb.mono B5.out.size))
  clear B5
  have B6 := BN
  clear BN
  have XX := Lib.hid hxN
  have hcXX := Boxed.cell XX.out
  have hWrXX := hWN.symm
  clear hWN hxN hzN hb
  skip
  go_wp2_with fail
  clear hWrXX
  refine (HI.out _ _ _ w_6 (X0.out.flat (Nat.le_refl _)) hl0).mono ?_
  rintro e w_7 ⟨ag, cg, rfl, hb⟩
  simp only
  have XBz := Lib.hid (boxed_below XB.out hb (Boxed.lt XB.out))
  have Vgwz := Lib.hid (boxed_below Vgw.out hb (Boxed.lt Vgw.out))
  have XXz := Lib.hid (boxed_below XX.out hb (Boxed.lt XX.out))
  have X0z := Lib.hid (X0.out.below hb X0.out.1)
  clear XB
  have XB := XBz
  clear XBz
  clear hcXB
  have hcXB := Boxed.cell XB.out
  clear Vgw
  have Vgw := Vgwz
  clear Vgwz
  clear hcVgw
  have hcVgw := Boxed.cell Vgw.out
  clear X0
  have X0 := X0z
  clear X0z
  clear XX
  have XX := XXz
  clear XXz
  clear hcXX
  have hcXX := Boxed.cell XX.out
  have BN := Lib.hid (B6.out.trans (hb.mono B6.out.size))
  clear B6
  have B7 := BN
  clear BN
  clear hb
  obtain ⟨w_8, hWN, hxN, hzN, hb⟩ := box1 w_7 53 (.slice ag 0 cg)
  have ltVgXB := (Boxed.lt XB.out)
  have ltVgVgw := (Boxed.lt Vgw.out)
  have ltVgX0 := X0.out.1
  have ltVgXX := (Boxed.lt XX.out)
  have XBz := Lib.hid (boxed_below XB.out hb (Boxed.lt XB.out))
  have Vgwz := Lib.hid (boxed_below Vgw.out hb (Boxed.lt Vgw.out))
  have XXz := Lib.hid (boxed_below XX.out hb (Boxed.lt XX.out))
  have X0z := Lib.hid (X0.out.below hb X0.out.1)
  clear XB
  have XB := XBz
  clear XBz
  clear hcXB
  have hcXB := Boxed.cell XB.out
  clear Vgw
  have Vgw := Vgwz
  clear Vgwz
  clear hcVgw
  have hcVgw := Boxed.cell Vgw.out
  clear X0
  have X0 := X0z
  clear X0z
  clear XX
  have XX := XXz
  clear XXz
  clear hcXX
  have hcXX := Boxed.cell XX.out
  have BN := Lib.hid (B7.out.trans (hb.mono B7.out.size))
  clear B7
  have B8 := BN
  clear BN
  have Vg := Lib.hid hxN
  have hcVg := Boxed.cell Vg.out
  have hWrVg := hWN.symm
  clear hWN hxN hzN hb
  skip
  go_wp2_with fail
  refine (eqFenwick_yes _ _ [] w_8 (flat0 _ _ _) (flat0 _ _ _) (by simp)).mono ?_
  rintro e w_9 ⟨rfl, hb⟩
  have XBz := Lib.hid (boxed_below XB.out hb (Boxed.lt XB.out))
  have Vgwz := Lib.hid (boxed_below Vgw.out hb (Boxed.lt Vgw.out))
  have XXz := Lib.hid (boxed_below XX.out hb (Boxed.lt XX.out))
  have Vgz := Lib.hid (boxed_below Vg.out hb (Boxed.lt Vg.out))
  have X0z := Lib.hid (X0.out.below hb X0.out.1)
  clear XB
  have XB := XBz
  clear XBz
  clear hcXB
  have hcXB := Boxed.cell XB.out
  clear Vgw
  have Vgw := Vgwz
  clear Vgwz
  clear hcVgw
  have hcVgw := Boxed.cell Vgw.out
  clear X0
  have X0 := X0z
  clear X0z
  clear XX
  have XX := XXz
  clear XXz
  clear hcXX
  have hcXX := Boxed.cell XX.out
  clear Vg
  have Vg := Vgz
  clear Vgz
  clear hcVg
  have hcVg := Boxed.cell Vg.out
  have BN := Lib.hid (B8.out.trans (hb.mono B8.out.size))
  clear B8
  have B9 := BN
  clear BN
  clear hb
  go_upto_region 10 with fail
  have HCMP : Hid (∀ W2, Below w_9.heap.size w_9 W2 → Calls Try.prog 55 #[.agg #[.slice s0 l0.length c0]] W2 fun e w' => ∃ gy, e = .returned (.agg #[.slice (some ⟨gy, 0, none⟩) l0.length l0.length]) ∧ w'.cell? ⟨w_5.heap.size, 0, none⟩ = some (.slice (some ⟨gx0, 0, none⟩) l0.length l0.length) ∧ ∀ W3, Below w'.heap.size w' W3 → Calls Try.prog 56 #[.agg #[.slice (some ⟨gx0, 0, none⟩) l0.length l0.length], .agg #[.slice (some ⟨gy, 0, none⟩) l0.length l0.length]] W3 fun e w4 => e = .returned (.bool true) ∧ Below w_9.heap.size w_9 w4) := Lib.hid (fun W2 h2 => (toFenwick_any _ l0 W2 (HV0.out.below (B9.out.trans (h2.mono B9.out.size))) hl0).mono (by
      rintro e w' ⟨gy, hgy, rfl, hry, hby⟩
      refine ⟨gy, rfl, Boxed.cell (boxed_below (boxed_below XX.out h2 (Boxed.lt XX.out)) hby (Boxed.lt (boxed_below XX.out h2 (Boxed.lt XX.out)))), fun W3 h3 => ?_⟩
      have hX2 := X0.out.below h2 X0.out.1
      have hX3 := hX2.below hby hX2.1
      refine (eqFenwick_yes _ _ l0 W3 ((hX3.below h3 hX3.1).flat (Nat.le_refl _)) ((hry.below h3 hry.1).flat (Nat.le_refl _)) hl0).mono ?_
      rintro e w4 ⟨rfl, h4⟩
      exact ⟨rfl, h2.trans ((hby.mono h2.size).trans ((h3.mono (Nat.le_trans h2.size hby.size)).trans (h4.mono (Nat.le_trans h2.size (Nat.le_trans hby.size h3.size)))))⟩))
  go_cut [63] from 59 to 63 (fun u wx => u = .bool false ∧ Below w_9.heap.size w_9 wx)
  case first =>
    clear Vgw
    clear X0
    clear Vg
    go_region_with (first | (go_at_call 55; refine (HCMP.out _ (by first | exact Below.refl _ _ | exact ⟨rfl, rfl, rfl, Nat.le_refl _, fun _ _ => rfl⟩)).mono ?_; rintro e wa ⟨gy, rfl, hcy, HE⟩) | (go_at_call 56; refine (HE _ (by first | exact Below.refl _ _ | exact ⟨rfl, rfl, rfl, Nat.le_refl _, fun _ _ => rfl⟩)).mono ?_; rintro e wb4 ⟨rfl, hb4⟩))
    all_goals (
      go_wp2_with fail
      go_meet
      first | exact ⟨rfl, hb4⟩ | exact ⟨rfl, hb4.trans ⟨rfl, rfl, rfl, Nat.le_refl _, fun _ _ => rfl⟩⟩)
  case rest =>
    obtain ⟨rfl, hb⟩ := hcut
    clear HCMP
    obtain ⟨w_10, hwc⟩ : ∃ x, x = wc := ⟨_, rfl⟩
    rw [← hwc] at hb ⊢
    clear hwc
    have XBz := Lib.hid (boxed_below XB.out hb (Boxed.lt XB.out))
    have Vgwz := Lib.hid (boxed_below Vgw.out hb (Boxed.lt Vgw.out))
    have XXz := Lib.hid (boxed_below XX.out hb (Boxed.lt XX.out))
    have Vgz := Lib.hid (boxed_below Vg.out hb (Boxed.lt Vg.out))
    have X0z := Lib.hid (X0.out.below hb X0.out.1)
    clear XB
    have XB := XBz
    clear XBz
    clear hcXB
    have hcXB := Boxed.cell XB.out
    clear Vgw
    have Vgw := Vgwz
    clear Vgwz
    clear hcVgw
    have hcVgw := Boxed.cell Vgw.out
    clear X0
    have X0 := X0z
    clear X0z
    clear XX
    have XX := XXz
    clear XXz
    clear hcXX
    have hcXX := Boxed.cell XX.out
    clear Vg
    have Vg := Vgz
    clear Vgz
    clear hcVg
    have hcVg := Boxed.cell Vg.out
    have BN := Lib.hid (B9.out.trans (hb.mono B9.out.size))
    clear B9
    have B10 := BN
    clear BN
    clear hb
    go_wp2_with fail
    refine (markFenwick_any gx0 l0.length l0 (1) w_10 X0.out hl0 (by omega)).mono ?_
    rintro e w_11 ⟨rfl, _, hb⟩
    clear X0
    have XBz := Lib.hid ((hb.block _ (Boxed.lt XB.out) (by omega)).trans XB.out)
    have Vgwz := Lib.hid ((hb.block _ (Boxed.lt Vgw.out) (by omega)).trans Vgw.out)
    have XXz := Lib.hid ((hb.block _ (Boxed.lt XX.out) (by omega)).trans XX.out)
    have Vgz := Lib.hid ((hb.block _ (Boxed.lt Vg.out) (by omega)).trans Vg.out)
    clear XB
    have XB := XBz
    clear XBz
    clear hcXB
    have hcXB := Boxed.cell XB.out
    clear Vgw
    have Vgw := Vgwz
    clear Vgwz
    clear hcVgw
    have hcVgw := Boxed.cell Vgw.out
    clear XX
    have XX := XXz
    clear XXz
    clear hcXX
    have hcXX := Boxed.cell XX.out
    clear Vg
    have Vg := Vgz
    clear Vgz
    clear hcVg
    have hcVg := Boxed.cell Vg.out
    have BN := Lib.hid (B10.out.trans (hb.below lox0 B10.out.size))
    clear B10
    have B11 := BN
    clear BN
    clear hb
    go_wp2_with fail
    refine (eqFenwick_yes _ _ [] w_11 (flat0 _ _ _) (flat0 _ _ _) (by simp)).mono ?_
    rintro e w_12 ⟨rfl, hb⟩
    have XBz := Lib.hid (boxed_below XB.out hb (Boxed.lt XB.out))
    have Vgwz := Lib.hid (boxed_below Vgw.out hb (Boxed.lt Vgw.out))
    have XXz := Lib.hid (boxed_below XX.out hb (Boxed.lt XX.out))
    have Vgz := Lib.hid (boxed_below Vg.out hb (Boxed.lt Vg.out))
    clear XB
    have XB := XBz
    clear XBz
    clear hcXB
    have hcXB := Boxed.cell XB.out
    clear Vgw
    have Vgw := Vgwz
    clear Vgwz
    clear hcVgw
    have hcVgw := Boxed.cell Vgw.out
    clear XX
    have XX := XXz
    clear XXz
    clear hcXX
    have hcXX := Boxed.cell XX.out
    clear Vg
    have Vg := Vgz
    clear Vgz
    clear hcVg
    have hcVg := Boxed.cell Vg.out
    have BN := Lib.hid (B11.out.trans (hb.mono B11.out.size))
    clear B11
    have B12 := BN
    clear BN
    clear hb
    go_wp2_with fail
    refine (mark0Fenwick_any _ _ w_12).mono ?_
    rintro e w_13 ⟨rfl, hb⟩
    have XBz := Lib.hid (boxed_below XB.out hb (Boxed.lt XB.out))
    have Vgwz := Lib.hid (boxed_below Vgw.out hb (Boxed.lt Vgw.out))
    have XXz := Lib.hid (boxed_below XX.out hb (Boxed.lt XX.out))
    have Vgz := Lib.hid (boxed_below Vg.out hb (Boxed.lt Vg.out))
    clear XB
    have XB := XBz
    clear XBz
    clear hcXB
    have hcXB := Boxed.cell XB.out
    clear Vgw
    have Vgw := Vgwz
    clear Vgwz
    clear hcVgw
    have hcVgw := Boxed.cell Vgw.out
    clear XX
    have XX := XXz
    clear XXz
    clear hcXX
    have hcXX := Boxed.cell XX.out
    clear Vg
    have Vg := Vgz
    clear Vgz
    clear hcVg
    have hcVg := Boxed.cell Vg.out
    have BN := Lib.hid (B12.out.trans (hb.mono B12.out.size))
    clear B12
    have B13 := BN
    clear BN
    clear hb
    go_wp2_with fail
    refine (held0Fenwick_any _ _ w_13).mono ?_
    rintro e w_14 ⟨rfl, hb⟩
    have XBz := Lib.hid (boxed_below XB.out hb (Boxed.lt XB.out))
    have Vgwz := Lib.hid (boxed_below Vgw.out hb (Boxed.lt Vgw.out))
    have XXz := Lib.hid (boxed_below XX.out hb (Boxed.lt XX.out))
    have Vgz := Lib.hid (boxed_below Vg.out hb (Boxed.lt Vg.out))
    clear XB
    have XB := XBz
    clear XBz
    clear hcXB
    have hcXB := Boxed.cell XB.out
    clear Vgw
    have Vgw := Vgwz
    clear Vgwz
    clear hcVgw
    have hcVgw := Boxed.cell Vgw.out
    clear XX
    have XX := XXz
    clear XXz
    clear hcXX
    have hcXX := Boxed.cell XX.out
    clear Vg
    have Vg := Vgz
    clear Vgz
    clear hcVg
    have hcVg := Boxed.cell Vg.out
    have BN := Lib.hid (B13.out.trans (hb.mono B13.out.size))
    clear B13
    have B14 := BN
    clear BN
    clear hb
    go_wp2_with fail
    refine (toFenwick_any _ l0 w_14 (HV0.out.below B14.out) hl0).mono ?_
    rintro e w_15 ⟨gcZ015, hgc, rfl, hr, hb⟩
    clear hgc
    have Z0 := Lib.hid hr
    have XBz := Lib.hid (boxed_below XB.out hb (Boxed.lt XB.out))
    have Vgwz := Lib.hid (boxed_below Vgw.out hb (Boxed.lt Vgw.out))
    have XXz := Lib.hid (boxed_below XX.out hb (Boxed.lt XX.out))
    have Vgz := Lib.hid (boxed_below Vg.out hb (Boxed.lt Vg.out))
    clear XB
    have XB := XBz
    clear XBz
    clear hcXB
    have hcXB := Boxed.cell XB.out
    clear Vgw
    have Vgw := Vgwz
    clear Vgwz
    clear hcVgw
    have hcVgw := Boxed.cell Vgw.out
    clear XX
    have XX := XXz
    clear XXz
    clear hcXX
    have hcXX := Boxed.cell XX.out
    clear Vg
    have Vg := Vgz
    clear Vgz
    clear hcVg
    have hcVg := Boxed.cell Vg.out
    have BN := Lib.hid (B14.out.trans (hb.mono B14.out.size))
    clear B14
    have B15 := BN
    clear BN
    clear hr hb
    go_wp2_with fail
    refine (HI.out _ _ _ w_15 (Z0.out.flat (Nat.le_refl _)) hl0).mono ?_
    rintro e w_16 ⟨agh, cgh, rfl, hb⟩
    simp only
    have XBz := Lib.hid (boxed_below XB.out hb (Boxed.lt XB.out))
    have Vgwz := Lib.hid (boxed_below Vgw.out hb (Boxed.lt Vgw.out))
    have XXz := Lib.hid (boxed_below XX.out hb (Boxed.lt XX.out))
    have Vgz := Lib.hid (boxed_below Vg.out hb (Boxed.lt Vg.out))
    have Z0z := Lib.hid (Z0.out.below hb Z0.out.1)
    clear XB
    have XB := XBz
    clear XBz
    clear hcXB
    have hcXB := Boxed.cell XB.out
    clear Vgw
    have Vgw := Vgwz
    clear Vgwz
    clear hcVgw
    have hcVgw := Boxed.cell Vgw.out
    clear XX
    have XX := XXz
    clear XXz
    clear hcXX
    have hcXX := Boxed.cell XX.out
    clear Vg
    have Vg := Vgz
    clear Vgz
    clear hcVg
    have hcVg := Boxed.cell Vg.out
    clear Z0
    have Z0 := Z0z
    clear Z0z
    have BN := Lib.hid (B15.out.trans (hb.mono B15.out.size))
    clear B15
    have B16 := BN
    clear BN
    clear hb
    obtain ⟨w_17, hWN, hxN, hzN, hb⟩ := box1 w_16 53 (.slice agh 0 cgh)
    have ltVghXB := (Boxed.lt XB.out)
    have ltVghVgw := (Boxed.lt Vgw.out)
    have ltVghXX := (Boxed.lt XX.out)
    have ltVghVg := (Boxed.lt Vg.out)
    have ltVghZ0 := Z0.out.1
    have XBz := Lib.hid (boxed_below XB.out hb (Boxed.lt XB.out))
    have Vgwz := Lib.hid (boxed_below Vgw.out hb (Boxed.lt Vgw.out))
    have XXz := Lib.hid (boxed_below XX.out hb (Boxed.lt XX.out))
    have Vgz := Lib.hid (boxed_below Vg.out hb (Boxed.lt Vg.out))
    have Z0z := Lib.hid (Z0.out.below hb Z0.out.1)
    clear XB
    have XB := XBz
    clear XBz
    clear hcXB
    have hcXB := Boxed.cell XB.out
    clear Vgw
    have Vgw := Vgwz
    clear Vgwz
    clear hcVgw
    have hcVgw := Boxed.cell Vgw.out
    clear XX
    have XX := XXz
    clear XXz
    clear hcXX
    have hcXX := Boxed.cell XX.out
    clear Vg
    have Vg := Vgz
    clear Vgz
    clear hcVg
    have hcVg := Boxed.cell Vg.out
    clear Z0
    have Z0 := Z0z
    clear Z0z
    have BN := Lib.hid (B16.out.trans (hb.mono B16.out.size))
    clear B16
    have B17 := BN
    clear BN
    have Vgh := Lib.hid hxN
    have hcVgh := Boxed.cell Vgh.out
    have hWrVgh := hWN.symm
    clear hWN hxN hzN hb
    skip
    clear Z0
    go_wp2_with fail
    refine (eqFenwick_yes _ _ [] w_17 (flat0 _ _ _) (flat0 _ _ _) (by simp)).mono ?_
    rintro e w_18 ⟨rfl, hb⟩
    have XBz := Lib.hid (boxed_below XB.out hb (Boxed.lt XB.out))
    have Vgwz := Lib.hid (boxed_below Vgw.out hb (Boxed.lt Vgw.out))
    have XXz := Lib.hid (boxed_below XX.out hb (Boxed.lt XX.out))
    have Vgz := Lib.hid (boxed_below Vg.out hb (Boxed.lt Vg.out))
    have Vghz := Lib.hid (boxed_below Vgh.out hb (Boxed.lt Vgh.out))
    clear XB
    have XB := XBz
    clear XBz
    clear hcXB
    have hcXB := Boxed.cell XB.out
    clear Vgw
    have Vgw := Vgwz
    clear Vgwz
    clear hcVgw
    have hcVgw := Boxed.cell Vgw.out
    clear XX
    have XX := XXz
    clear XXz
    clear hcXX
    have hcXX := Boxed.cell XX.out
    clear Vg
    have Vg := Vgz
    clear Vgz
    clear hcVg
    have hcVg := Boxed.cell Vg.out
    clear Vgh
    have Vgh := Vghz
    clear Vghz
    clear hcVgh
    have hcVgh := Boxed.cell Vgh.out
    have BN := Lib.hid (B17.out.trans (hb.mono B17.out.size))
    clear B17
    have B18 := BN
    clear BN
    clear hb
    go_wp2_with fail
    refine (held0Fenwick_any _ _ w_18).mono ?_
    rintro e w_19 ⟨rfl, hb⟩
    have XBz := Lib.hid (boxed_below XB.out hb (Boxed.lt XB.out))
    have Vgwz := Lib.hid (boxed_below Vgw.out hb (Boxed.lt Vgw.out))
    have XXz := Lib.hid (boxed_below XX.out hb (Boxed.lt XX.out))
    have Vgz := Lib.hid (boxed_below Vg.out hb (Boxed.lt Vg.out))
    have Vghz := Lib.hid (boxed_below Vgh.out hb (Boxed.lt Vgh.out))
    clear XB
    have XB := XBz
    clear XBz
    clear hcXB
    have hcXB := Boxed.cell XB.out
    clear Vgw
    have Vgw := Vgwz
    clear Vgwz
    clear hcVgw
    have hcVgw := Boxed.cell Vgw.out
    clear XX
    have XX := XXz
    clear XXz
    clear hcXX
    have hcXX := Boxed.cell XX.out
    clear Vg
    have Vg := Vgz
    clear Vgz
    clear hcVg
    have hcVg := Boxed.cell Vg.out
    clear Vgh
    have Vgh := Vghz
    clear Vghz
    clear hcVgh
    have hcVgh := Boxed.cell Vgh.out
    have BN := Lib.hid (B18.out.trans (hb.mono B18.out.size))
    clear B18
    have B19 := BN
    clear BN
    clear hb
    go_wp2_with fail
    go_ret
    exact ⟨rfl, B19.out⟩

theorem walk (v0 : Value) (l0 : List Int) (a1 : Int) (a2 : Int) (w : World) (w0 : FlatAt w v0 l0.length (ints l0) ∧ l0.length ≤ maxLen ∧ Fw.IsW l0) (w1 : (Lit.int .i64 a1).wf = true) (w2 : (Lit.int .i64 a2).wf = true) :
    Calls Try.prog 13 #[.agg #[v0], .int .i64 a1, .int .i64 a2] w fun e w' => e = .returned (.bool true) ∧ Below w.heap.size w w' := by
  by_cases hr0 : (Fw.addF l0 a1 a2).1 = []
  · exact walkZ v0 l0 a1 a2 w w0 w1 w2 hr0
  · exact walkS v0 l0 a1 a2 w w0 w1 w2 hr0

set_option maxRecDepth 100000 in
theorem lifted (os : Os) (started : os.Started) (H : Type) (enc : TypeId × Value → H) :
    ReturnsInHanded {} Try.checked os 13 .any (Rows.fnExactFenwickAddSpec.pre6 enc Try.prog Try.f13 Rows.fnExactFenwickAddRow.domain false) (Rows.fnExactFenwickAddSpec.post enc Try.prog Try.f13 false true false false) := by
  refine returnsInHanded_of_change (C := Try.checked) own started (by kernel_rfl) Try.func13
    (ChangeSpec.witness6 (enc := enc) (C := Try.checked) false ⟨#[], #[.agg #[.slice none 0 0], .int .i64 0, .int .i64 0], []⟩ 8 (by kernel_rfl) (by kernel_rfl) (by kernel_rfl) (by kernel_rfl)) ?_
  intro W base args ds gs before hval0 hW hcnd _
  have hval : ∀ (j : Nat) t v, Try.f13.params[j]? = some t → args[j]? = some v → Value.okWide Try.prog W .any base t v := hval0
  have hW' := hW
  obtain ⟨p, q, hA0, hV, rfl, hfz, hnd⟩ := hW
  have hA : DataW.TrodAll enc Try.prog W 0 (fun _ => true) true Try.f13.params.toList args.toList ds p := hA0
  rw [Try.params13] at hA hval
  obtain ⟨v0, vs0, d0, ds0, p0, q0, hargs, rfl, rfl, h0, r0⟩ := trodAll_cons hA
  obtain ⟨v1, vs1, d1, ds1, p1, q1, rfl, rfl, rfl, h1, r1⟩ := trodAll_cons r0
  obtain ⟨v2, vs2, d2, ds2, p2, q2, rfl, rfl, rfl, h2, r2⟩ := trodAll_cons r1
  obtain ⟨rfl, rfl, rfl⟩ := trodAll_nil r2
  obtain rfl : args = #[v0, v1, v2] := by cases args; simp_all
  obtain ⟨rfl, rfl⟩ := trodVars_none hV
  obtain ⟨u0, l0, rfl, w0⟩ : ∃ (u : Value) (l : List Int), v0 = .agg #[u] ∧ FlatAt W u l.length (ints l) ∧ l.length ≤ maxLen ∧ Fw.IsW l := by
    obtain ⟨fuel, hf⟩ := h0
    exact open_fen (hval 0 66 v0 rfl rfl) hf
  have k0 := h0
  have lt0 : ∀ x ∈ p0, x.block < W.heap.size := by obtain ⟨m, hm⟩ := k0; exact DataW.trod_lt m _ _ _ hm
  obtain ⟨a1, rfl, rfl, rfl, w1⟩ := open_int Try.underlying3 (hval 1 3 v1 rfl rfl) h1
  obtain ⟨a2, rfl, rfl, rfl, w2⟩ := open_int Try.underlying3 (hval 2 3 v2 rfl rfl) h2
  clear hA0 hval0
  refine (walk u0 l0 a1 a2 W w0 w1 w2).mono fun e W' ⟨he, bel⟩ => ?_
  subst he
  exact ⟨_, rfl, _, _, _, [], _, [], hW', trodAll_mk1 (shut_bool Try.underlying4 _), (trodAll_cons_mk (Below.trod laidOut (by kernel_rfl) (of_decide_eq_true (by kernel_rfl)) k0 bel lt0) (trodAll_cons_mk (shut_int Try.underlying3 w1) (trodAll_cons_mk (shut_int Try.underlying3 w2) trodAll_mk0))), rfl, bel.frame _, fun h => by cases h⟩

theorem closed : joinedFacts Try.prog 13 Try.f13 Rows.fnExactFenwickAddSpec Rows.fnExactFenwickAddRow = true := by
  unfold joinedFacts
  rw [head_enter, head_final, head_make]
  kernel_rfl

theorem over : Rows.fnExactFenwickAddRow.holds Try.pinned (OpenSpec.ofChange Rows.fnExactFenwickAddSpec) :=
  OpenClaim.holds_of_wide 13 Try.f13 rfl rfl rfl rfl rfl rfl rfl ⟨rfl, rfl, rfl, rfl, rfl⟩ rfl rfl rfl rfl rfl (by kernel_rfl) Try.func13 closed
    (of_decide_eq_true (by kernel_rfl)) (by unfold Func.isWrapper; first | (rw [if_pos (by decide +kernel)]; kernel_rfl) | (rw [if_neg (by decide +kernel)]; exact ⟨rfl, rfl⟩))
    (fun os started H enc _ => lifted os started H enc)

theorem proved : Rows.FnExactFenwickAddSaid := over
#print axioms proved
end Go.Proofs.Ytgfdpjmhdijdiaa.fnExactFenwickAdd
