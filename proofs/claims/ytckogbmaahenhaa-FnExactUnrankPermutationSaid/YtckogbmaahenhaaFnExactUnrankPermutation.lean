/- FnExactUnrankPermutation returns true at every input. No condition. -/
import Derived.Test.YtckogbmaahenhaaRows
import Derived.WalkKit
import Derived.ProofKit
import Derived.OpenShut
import Derived.ShutString
import Derived.ChangeOld
import Derived.Below
import Derived.SliceStrings
import Derived.Test.YtckogbmaahenhaaHead
import Derived.Test.YtckogbmaahenhaaIntSE
import Derived.Test.YtckogbmaahenhaaIntSM
import Derived.Test.YtckogbmaahenhaaIntSH
import Derived.Test.YtckogbmaahenhaaSUnr
import Derived.Test.YtckogbmaahenhaaIUnrB
namespace Go.Proofs.Ytckogbmaahenhaa.fnExactUnrankPermutation
open Go.ChangeShapes Go.WideShapes Go.ChangeAt Go.RowKit
open Go.ChangeMaps (open_string shut_string)
set_option linter.unusedVariables false

theorem own : ownKnob Try.prog.godebug = none := by kernel_rfl
theorem laidOut : laidOutB Try.prog = true := by kernel_rfl

set_option maxRecDepth 100000 in
set_option maxHeartbeats 4000000 in
theorem walk (a0 : Int) (a1 : Int) (w : World) (w0 : (Lit.int .i64 a0).wf = true) (w1 : (Lit.int .i64 a1).wf = true) :
    Calls Try.prog 16 #[.int .i64 a0, .int .i64 a1] w fun e w' => e = .returned (.bool true) ∧ Below w.heap.size w w' := by
  obtain ⟨R, hR⟩ : ∃ R, R = P.unrF a0 a1 := ⟨_, rfl⟩
  have HS : Hid (∀  (W : World)  , Calls Try.prog 49 #[.int .i64 a0, .int .i64 a1] W (RetI R W)) := Lib.hid (fun  W   => by rw [hR]; exact (fun a0 a1 W _ w1 => specUnr_any a0 a1 W w1) a0 a1 W w0 w1)
  have HI : Hid (∀  (W : World)  , Calls Try.prog 48 #[.int .i64 a0, .int .i64 a1] W (RetI R W)) := Lib.hid (fun  W   => by rw [hR]; exact (fun a0 a1 W _ w1 => implUnr_any a0 a1 W w1) a0 a1 W w0 w1)
  have HLEN : Hid (∀ (_ : True), R.1.length ≤ 1048576) := Lib.hid (fun _ => by rw [hR]; exact (P.unrF_len a0 a1))
  clear hR
  obtain ⟨R1, R2⟩ := R
  have hR1 : R1.length ≤ 1048576 := HLEN.out trivial
  clear HLEN
  have B0 : Hid (Below w.heap.size w w) := Lib.hid (Below.refl _ _)
  go_enter Try.func16, Try.ntmps16
  go_wp2_with fail
  refine (HS.out  w  ).mono ?_
  rintro e w_1 ⟨gw, cgw, rfl, hcgw, hggw, hrow, hb⟩
  simp only at hcgw hrow
  have Rgw := Lib.hid hrow
  have logw : w.heap.size ≤ gw := Nat.le_trans B0.out.size hggw
  have BN := Lib.hid (B0.out.trans (hb.mono B0.out.size))
  clear B0
  have B1 := BN
  clear BN
  clear hrow hb hggw
  clear HS
  go_wp2_with fail
  refine (HI.out  w_1  ).mono ?_
  rintro e w_2 ⟨g, cg, rfl, hcg, hgg, hrow, hb⟩
  simp only at hcg hrow
  have Rg := Lib.hid hrow
  have ltgRgw := Nat.lt_of_lt_of_le Rgw.out.1 hgg
  have log : w.heap.size ≤ g := Nat.le_trans B1.out.size hgg
  have Rgwz := Lib.hid (Rgw.out.below hb Rgw.out.1)
  clear Rgw
  have Rgw := Rgwz
  clear Rgwz
  have BN := Lib.hid (B1.out.trans (hb.mono B1.out.size))
  clear B1
  have B2 := BN
  clear BN
  clear hrow hb hgg
  go_wp2_with fail
  refine (eqIntS_yes _ _ R1 w_2 (Rg.out.flat hcg) (Rgw.out.flat hcgw) hR1).mono ?_
  rintro e w_3 ⟨rfl, hb⟩
  have Rgwz := Lib.hid (Rgw.out.below hb Rgw.out.1)
  have Rgz := Lib.hid (Rg.out.below hb Rg.out.1)
  clear Rgw
  have Rgw := Rgwz
  clear Rgwz
  clear Rg
  have Rg := Rgz
  clear Rgz
  have BN := Lib.hid (B2.out.trans (hb.mono B2.out.size))
  clear B2
  have B3 := BN
  clear BN
  clear hb
  go_wp2_with fail
  refine (markIntS_any g cg R1 1 w_3 Rg.out hR1 (by omega)).mono ?_
  rintro e w_4 ⟨rfl, hr, hb⟩
  clear Rg
  have Rgwz := Lib.hid (Rgw.out.but hb (by omega))
  clear Rgw
  have Rgw := Rgwz
  clear Rgwz
  have BN := Lib.hid (B3.out.trans (hb.below log B3.out.size))
  clear B3
  have B4 := BN
  clear BN
  have Rg := Lib.hid hr
  clear hr hb
  go_wp2_with fail
  refine (heldIntS_any g cg R1.length 1 w_4 Rg.out hR1 (by omega)).mono ?_
  rintro e w_5 ⟨rfl, hb⟩
  have Rgwz := Lib.hid (Rgw.out.below hb Rgw.out.1)
  have Rgz := Lib.hid (Rg.out.below hb Rg.out.1)
  clear Rgw
  have Rgw := Rgwz
  clear Rgwz
  clear Rg
  have Rg := Rgz
  clear Rgz
  have BN := Lib.hid (B4.out.trans (hb.mono B4.out.size))
  clear B4
  have B5 := BN
  clear BN
  clear hb
  go_wp2_with fail
  refine (HI.out  w_5  ).mono ?_
  rintro e w_6 ⟨gh, cgh, rfl, hcgh, hggh, hrow, hb⟩
  simp only at hcgh hrow
  have Rgh := Lib.hid hrow
  have ltghRgw := Nat.lt_of_lt_of_le Rgw.out.1 hggh
  have ltghRg := Nat.lt_of_lt_of_le Rg.out.1 hggh
  have logh : w.heap.size ≤ gh := Nat.le_trans B5.out.size hggh
  have Rgwz := Lib.hid (Rgw.out.below hb Rgw.out.1)
  have Rgz := Lib.hid (Rg.out.below hb Rg.out.1)
  clear Rgw
  have Rgw := Rgwz
  clear Rgwz
  clear Rg
  have Rg := Rgz
  clear Rgz
  have BN := Lib.hid (B5.out.trans (hb.mono B5.out.size))
  clear B5
  have B6 := BN
  clear BN
  clear hrow hb hggh
  go_wp2_with fail
  refine (eqIntS_yes _ _ R1 w_6 (Rgh.out.flat hcgh) (Rgw.out.flat hcgw) hR1).mono ?_
  rintro e w_7 ⟨rfl, hb⟩
  have Rgwz := Lib.hid (Rgw.out.below hb Rgw.out.1)
  have Rgz := Lib.hid (Rg.out.below hb Rg.out.1)
  have Rghz := Lib.hid (Rgh.out.below hb Rgh.out.1)
  clear Rgw
  have Rgw := Rgwz
  clear Rgwz
  clear Rg
  have Rg := Rgz
  clear Rgz
  clear Rgh
  have Rgh := Rghz
  clear Rghz
  have BN := Lib.hid (B6.out.trans (hb.mono B6.out.size))
  clear B6
  have B7 := BN
  clear BN
  clear hb
  go_wp2_with fail
  refine (heldIntS_any g cg R1.length 1 w_7 Rg.out hR1 (by omega)).mono ?_
  rintro e w_8 ⟨rfl, hb⟩
  have Rgwz := Lib.hid (Rgw.out.below hb Rgw.out.1)
  have Rgz := Lib.hid (Rg.out.below hb Rg.out.1)
  have Rghz := Lib.hid (Rgh.out.below hb Rgh.out.1)
  clear Rgw
  have Rgw := Rgwz
  clear Rgwz
  clear Rg
  have Rg := Rgz
  clear Rgz
  clear Rgh
  have Rgh := Rghz
  clear Rghz
  have BN := Lib.hid (B7.out.trans (hb.mono B7.out.size))
  clear B7
  have B8 := BN
  clear BN
  clear hb
  go_wp2_with fail
  go_ret
  exact ⟨rfl, B8.out⟩

set_option maxRecDepth 100000 in
theorem lifted (os : Os) (started : os.Started) (H : Type) (enc : TypeId × Value → H) :
    ReturnsInHanded {} Try.checked os 16 .any (Rows.fnExactUnrankPermutationSpec.pre6 enc Try.prog Try.f16 Rows.fnExactUnrankPermutationRow.domain false) (Rows.fnExactUnrankPermutationSpec.post enc Try.prog Try.f16 false true false false) := by
  refine returnsInHanded_of_change (C := Try.checked) own started (by kernel_rfl) Try.func16
    (ChangeSpec.witness6 (enc := enc) (C := Try.checked) false ⟨#[], #[.int .i64 0, .int .i64 0], []⟩ 8 (by kernel_rfl) (by kernel_rfl) (by kernel_rfl) (by kernel_rfl)) ?_
  intro W base args ds gs before hval0 hW hcnd _
  have hval : ∀ (j : Nat) t v, Try.f16.params[j]? = some t → args[j]? = some v → Value.okWide Try.prog W .any base t v := hval0
  have hW' := hW
  obtain ⟨p, q, hA0, hV, rfl, hfz, hnd⟩ := hW
  have hA : DataW.TrodAll enc Try.prog W 0 (fun _ => true) true Try.f16.params.toList args.toList ds p := hA0
  rw [Try.params16] at hA hval
  obtain ⟨v0, vs0, d0, ds0, p0, q0, hargs, rfl, rfl, h0, r0⟩ := trodAll_cons hA
  obtain ⟨v1, vs1, d1, ds1, p1, q1, rfl, rfl, rfl, h1, r1⟩ := trodAll_cons r0
  obtain ⟨rfl, rfl, rfl⟩ := trodAll_nil r1
  obtain rfl : args = #[v0, v1] := by cases args; simp_all
  obtain ⟨rfl, rfl⟩ := trodVars_none hV
  obtain ⟨a0, rfl, rfl, rfl, w0⟩ := open_int Try.underlying3 (hval 0 3 v0 rfl rfl) h0
  obtain ⟨a1, rfl, rfl, rfl, w1⟩ := open_int Try.underlying3 (hval 1 3 v1 rfl rfl) h1
  clear hA0 hval0
  refine (walk a0 a1 W w0 w1).mono fun e W' ⟨he, bel⟩ => ?_
  subst he
  exact ⟨_, rfl, _, _, _, [], _, [], hW', trodAll_mk1 (shut_bool Try.underlying4 _), (trodAll_cons_mk (shut_int Try.underlying3 w0) (trodAll_cons_mk (shut_int Try.underlying3 w1) trodAll_mk0)), rfl, bel.frame _, fun h => by cases h⟩

theorem closed : joinedFacts Try.prog 16 Try.f16 Rows.fnExactUnrankPermutationSpec Rows.fnExactUnrankPermutationRow = true := by
  unfold joinedFacts
  rw [head_enter, head_final, head_make]
  kernel_rfl

theorem over : Rows.fnExactUnrankPermutationRow.holds Try.pinned (OpenSpec.ofChange Rows.fnExactUnrankPermutationSpec) :=
  OpenClaim.holds_of_wide 16 Try.f16 rfl rfl rfl rfl rfl rfl rfl ⟨rfl, rfl, rfl, rfl, rfl⟩ rfl rfl rfl rfl rfl (by kernel_rfl) Try.func16 closed
    (of_decide_eq_true (by kernel_rfl)) (by unfold Func.isWrapper; first | (rw [if_pos (by decide +kernel)]; kernel_rfl) | (rw [if_neg (by decide +kernel)]; exact ⟨rfl, rfl⟩))
    (fun os started H enc _ => lifted os started H enc)

theorem proved : Rows.FnExactUnrankPermutationSaid := over
#print axioms proved
end Go.Proofs.Ytckogbmaahenhaa.fnExactUnrankPermutation
