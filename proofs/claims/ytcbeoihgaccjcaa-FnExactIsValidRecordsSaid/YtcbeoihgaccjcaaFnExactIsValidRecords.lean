/- FnExactIsValidRecords returns true at every input. No condition. -/
import Derived.Test.YtcbeoihgaccjcaaRows
import Derived.WalkKit
import Derived.ProofKit
import Derived.OpenShut
import Derived.ShutString
import Derived.ChangeOld
import Derived.Below
import Derived.SliceStrings
import Derived.Test.YtcbeoihgaccjcaaRecS
import Derived.Test.YtcbeoihgaccjcaaRecSE
import Derived.Test.YtcbeoihgaccjcaaOpenR
import Derived.Test.YtcbeoihgaccjcaaIRecs
import Derived.Test.YtcbeoihgaccjcaaSortC
namespace Go.Proofs.Ytcbeoihgaccjcaa.fnExactIsValidRecords
open Go.ChangeShapes Go.WideShapes Go.ChangeAt Go.RowKit
open Go.ChangeMaps (open_string shut_string)
set_option linter.unusedVariables false

theorem own : ownKnob Try.prog.godebug = none := by kernel_rfl
theorem laidOut : laidOutB Try.prog = true := by kernel_rfl

set_option maxRecDepth 100000 in
theorem walk (v0 : Value) (l0 : List (Int × Int)) (w : World) (w0 : FlatAt w v0 l0.length (recs l0) ∧ l0.length ≤ maxLen) :
    Calls Try.prog 6 #[v0] w fun e w' => e = .returned (.bool true) ∧ Below w.heap.size w w' := by
  obtain ⟨hv, hn⟩ := w0
  have hv0 := hv
  obtain ⟨a, c, rfl, hx0, hx1⟩ := hv0
  have HV := Lib.hid hv
  clear hv hx0 hx1
  by_cases hl : l0.length ≤ 1048576
  · have HSZ := Lib.hid (szRec_yes a l0.length c 1048576 w hl (by omega))
    go_enter Try.func6, Try.ntmps6
    go_wp2_with fail
    refine HSZ.out.mono ?_
    rintro e wz ⟨rfl, rfl⟩
    clear HSZ
    go_wp2_with fail
    refine (toRecS_any _ l0 wz HV.out hl).mono ?_
    rintro e w1 ⟨rfl, hr1, hb1⟩
    have HR1 := Lib.hid hr1
    have B1 := Lib.hid hb1
    clear hr1 hb1
    go_wp2_with fail
    refine (specValidRecs_any _ l0 w1 (FlatAt.of_row (Nat.le_refl _) HR1.out) hl).mono ?_
    rintro e w2 ⟨rfl, hb⟩
    have B2 := Lib.hid (B1.out.trans (hb.mono B1.out.size))
    clear hb B1 HR1
    go_wp2_with fail
    refine (toRecS_any _ l0 w2 (HV.out.below B2.out) hl).mono ?_
    rintro e w3 ⟨rfl, hr, hb⟩
    have RX := Lib.hid (CellRow.of_row hr)
    have B3 := Lib.hid (B2.out.trans (hb.mono B2.out.size))
    clear hr hb B2
    go_wp2_with fail
    refine (implValidRecs_any _ l0 w3 (RX.out.flat (Nat.le_refl _)) hl).mono ?_
    rintro e w4 ⟨rfl, hb⟩
    have RX4 := Lib.hid (RX.out.below hb RX.out.1)
    have B4 := Lib.hid (B3.out.trans (hb.mono B3.out.size))
    clear hb RX B3
    go_wp2_with fail
    refine (toRecS_any _ l0 w4 (HV.out.below B4.out) hl).mono ?_
    rintro e w5 ⟨rfl, hr, hb⟩
    have RY := Lib.hid (CellRow.of_row hr)
    have RX5 := Lib.hid (RX4.out.below hb RX4.out.1)
    have B5 := Lib.hid (B4.out.trans (hb.mono B4.out.size))
    clear hr hb RX4 B4
    go_wp2_with fail
    refine (eqRecS_yes _ _ l0 w5 (RX5.out.flat (Nat.le_refl _)) (RY.out.flat (Nat.le_refl _)) hl).mono ?_
    rintro e w6 ⟨rfl, hb⟩
    have B6 := Lib.hid (B5.out.trans (hb.mono B5.out.size))
    clear hb B5 RX5 RY
    go_wp2_with fail
    go_ret
    exact ⟨rfl, B6.out⟩
  · have HSZ := Lib.hid (szRec_no a l0.length c 1048576 w (by omega) (by omega) hn)
    clear hl HV
    go_enter Try.func6, Try.ntmps6
    go_wp2_with fail
    refine HSZ.out.mono ?_
    rintro e w0 ⟨rfl, rfl⟩
    go_wp2_with fail
    go_ret
    exact ⟨rfl, Below.refl _ _⟩

set_option maxRecDepth 100000 in
theorem lifted (os : Os) (started : os.Started) (H : Type) (enc : TypeId × Value → H) :
    ReturnsInHanded {} Try.checked os 6 .any (Rows.fnExactIsValidRecordsSpec.pre6 enc Try.prog Try.f6 Rows.fnExactIsValidRecordsRow.domain false) (Rows.fnExactIsValidRecordsSpec.post enc Try.prog Try.f6 false true false false) := by
  refine returnsInHanded_of_change (C := Try.checked) own started (by kernel_rfl) Try.func6
    (ChangeSpec.witness6 (enc := enc) (C := Try.checked) false ⟨#[], #[.slice none 0 0], []⟩ 8 (by kernel_rfl) (by kernel_rfl) (by kernel_rfl) (by kernel_rfl)) ?_
  intro W base args ds gs before hval0 hW hcnd _
  have hval : ∀ (j : Nat) t v, Try.f6.params[j]? = some t → args[j]? = some v → Value.okWide Try.prog W .any base t v := hval0
  have hW' := hW
  obtain ⟨p, q, hA0, hV, rfl, hfz, hnd⟩ := hW
  have hA : DataW.TrodAll enc Try.prog W 0 (fun _ => true) true Try.f6.params.toList args.toList ds p := hA0
  rw [Try.params6] at hA hval
  obtain ⟨v0, vs0, d0, ds0, p0, q0, hargs, rfl, rfl, h0, r0⟩ := trodAll_cons hA
  obtain ⟨rfl, rfl, rfl⟩ := trodAll_nil r0
  obtain rfl : args = #[v0] := by cases args; simp_all
  obtain ⟨rfl, rfl⟩ := trodVars_none hV
  obtain ⟨a0, len0, cap0, rfl⟩ := okWide_slice Try.underlying44 (hval 0 44 v0 rfl rfl)
  have k0 := h0
  have lt0 : ∀ x ∈ p0, x.block < W.heap.size := by obtain ⟨m, hm⟩ := k0; exact DataW.trod_lt m _ _ _ hm
  obtain ⟨l0, w0⟩ : ∃ l : List (Int × Int), FlatAt W (.slice a0 len0 cap0) l.length (recs l) ∧ l.length ≤ maxLen := by
    obtain ⟨fuel, hf⟩ := h0
    obtain ⟨l, e, hm, hf⟩ := open_recs hf
    exact ⟨l, hf, by rw [e]; exact hm⟩
  clear hA0 hval0
  refine (walk (.slice a0 len0 cap0) l0 W w0).mono fun e W' ⟨he, bel⟩ => ?_
  subst he
  exact ⟨_, rfl, _, _, _, [], _, [], hW', trodAll_mk1 (shut_bool Try.underlying4 _), (trodAll_cons_mk (Below.trod laidOut (by kernel_rfl) (of_decide_eq_true (by kernel_rfl)) k0 bel lt0) trodAll_mk0), rfl, bel.frame _, fun h => by cases h⟩

theorem over : Rows.fnExactIsValidRecordsRow.holds Try.pinned (OpenSpec.ofChange Rows.fnExactIsValidRecordsSpec) :=
  OpenClaim.holds_of_wide 6 Try.f6 rfl rfl rfl rfl rfl rfl rfl ⟨rfl, rfl, rfl, rfl, rfl⟩ rfl rfl rfl rfl rfl (by kernel_rfl) Try.func6 (by kernel_rfl)
    (of_decide_eq_true (by kernel_rfl)) (by unfold Func.isWrapper; first | (rw [if_pos (by decide +kernel)]; kernel_rfl) | (rw [if_neg (by decide +kernel)]; exact ⟨rfl, rfl⟩))
    (fun os started H enc _ => lifted os started H enc)

theorem proved : Rows.FnExactIsValidRecordsSaid := over
#print axioms proved
end Go.Proofs.Ytcbeoihgaccjcaa.fnExactIsValidRecords
