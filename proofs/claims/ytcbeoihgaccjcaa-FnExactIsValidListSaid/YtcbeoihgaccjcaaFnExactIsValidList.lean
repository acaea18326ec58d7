/- FnExactIsValidList returns true at every input. No condition. -/
import Derived.Test.YtcbeoihgaccjcaaRows
import Derived.WalkKit
import Derived.ProofKit
import Derived.OpenShut
import Derived.ShutString
import Derived.ChangeOld
import Derived.Below
import Derived.SliceStrings
import Derived.Test.YtcbeoihgaccjcaaIntS
import Derived.Test.YtcbeoihgaccjcaaIntSE
import Derived.Test.YtcbeoihgaccjcaaOpenI
import Derived.Test.YtcbeoihgaccjcaaIList
import Derived.Test.YtcbeoihgaccjcaaListC
namespace Go.Proofs.Ytcbeoihgaccjcaa.fnExactIsValidList
open Go.ChangeShapes Go.WideShapes Go.ChangeAt Go.RowKit
open Go.ChangeMaps (open_string shut_string)
set_option linter.unusedVariables false

theorem own : ownKnob Try.prog.godebug = none := by kernel_rfl
theorem laidOut : laidOutB Try.prog = true := by kernel_rfl

set_option maxRecDepth 100000 in
theorem walk (v0 : Value) (l0 : List Int) (w : World) (w0 : FlatAt w v0 l0.length (ints l0) ∧ l0.length ≤ maxLen) :
    Calls Try.prog 5 #[v0] w fun e w' => e = .returned (.bool true) ∧ Below w.heap.size w w' := by
  obtain ⟨hv, hn⟩ := w0
  have hv0 := hv
  obtain ⟨a, c, rfl, hx0, hx1⟩ := hv0
  have HV := Lib.hid hv
  clear hv hx0 hx1
  unfold maxLen at hn
  by_cases hl : l0.length ≤ 1048576
  · go_enter Try.func5, Try.ntmps5
    go_wp2_with fail
    refine (toIntS_any _ l0 w HV.out hl).mono ?_
    rintro e w1 ⟨rfl, hr1, hb1⟩
    have HR1 := Lib.hid hr1
    have B1 := Lib.hid hb1
    clear hr1 hb1
    go_wp2_with fail
    refine (specValidList_any _ l0 w1 (FlatAt.of_row (Nat.le_refl _) HR1.out) hl).mono ?_
    rintro e w2 ⟨rfl, hb⟩
    have B2 := Lib.hid (B1.out.trans (hb.mono B1.out.size))
    clear hb B1 HR1
    go_wp2_with fail
    refine (toIntS_any _ l0 w2 (HV.out.below B2.out) hl).mono ?_
    rintro e w3 ⟨rfl, hr, hb⟩
    have RX := Lib.hid (CellRow.of_row hr)
    have B3 := Lib.hid (B2.out.trans (hb.mono B2.out.size))
    clear hr hb B2
    go_wp2_with fail
    refine (implValidList_any _ l0 w3 (RX.out.flat (Nat.le_refl _)) hl).mono ?_
    rintro e w4 ⟨rfl, hb⟩
    have RX4 := Lib.hid (RX.out.below hb RX.out.1)
    have B4 := Lib.hid (B3.out.trans (hb.mono B3.out.size))
    clear hb RX B3
    go_wp2_with fail
    refine (toIntS_any _ l0 w4 (HV.out.below B4.out) hl).mono ?_
    rintro e w5 ⟨rfl, hr, hb⟩
    have RY := Lib.hid (CellRow.of_row hr)
    have RX5 := Lib.hid (RX4.out.below hb RX4.out.1)
    have B5 := Lib.hid (B4.out.trans (hb.mono B4.out.size))
    clear hr hb RX4 B4
    go_wp2_with fail
    refine (eqIntS_yes _ _ l0 w5 (RX5.out.flat (Nat.le_refl _)) (RY.out.flat (Nat.le_refl _)) hl).mono ?_
    rintro e w6 ⟨rfl, hb⟩
    have B6 := Lib.hid (B5.out.trans (hb.mono B5.out.size))
    clear hb B5 RX5 RY
    go_wp2_with fail
    go_ret
    exact ⟨rfl, B6.out⟩
  · clear HV
    go_enter Try.func5, Try.ntmps5
    go_wp2_with fail
    go_ret
    exact ⟨rfl, Below.refl _ _⟩

set_option maxRecDepth 100000 in
theorem lifted (os : Os) (started : os.Started) (H : Type) (enc : TypeId × Value → H) :
    ReturnsInHanded {} Try.checked os 5 .any (Rows.fnExactIsValidListSpec.pre6 enc Try.prog Try.f5 Rows.fnExactIsValidListRow.domain false) (Rows.fnExactIsValidListSpec.post enc Try.prog Try.f5 false true false false) := by
  refine returnsInHanded_of_change (C := Try.checked) own started (by kernel_rfl) Try.func5
    (ChangeSpec.witness6 (enc := enc) (C := Try.checked) false ⟨#[], #[.slice none 0 0], []⟩ 8 (by kernel_rfl) (by kernel_rfl) (by kernel_rfl) (by kernel_rfl)) ?_
  intro W base args ds gs before hval0 hW hcnd _
  have hval : ∀ (j : Nat) t v, Try.f5.params[j]? = some t → args[j]? = some v → Value.okWide Try.prog W .any base t v := hval0
  have hW' := hW
  obtain ⟨p, q, hA0, hV, rfl, hfz, hnd⟩ := hW
  have hA : DataW.TrodAll enc Try.prog W 0 (fun _ => true) true Try.f5.params.toList args.toList ds p := hA0
  rw [Try.params5] at hA hval
  obtain ⟨v0, vs0, d0, ds0, p0, q0, hargs, rfl, rfl, h0, r0⟩ := trodAll_cons hA
  obtain ⟨rfl, rfl, rfl⟩ := trodAll_nil r0
  obtain rfl : args = #[v0] := by cases args; simp_all
  obtain ⟨rfl, rfl⟩ := trodVars_none hV
  obtain ⟨a0, len0, cap0, rfl⟩ := okWide_slice Try.underlying35 (hval 0 35 v0 rfl rfl)
  have k0 := h0
  have lt0 : ∀ x ∈ p0, x.block < W.heap.size := by obtain ⟨m, hm⟩ := k0; exact DataW.trod_lt m _ _ _ hm
  obtain ⟨l0, w0⟩ : ∃ l : List Int, FlatAt W (.slice a0 len0 cap0) l.length (ints l) ∧ l.length ≤ maxLen := by
    obtain ⟨fuel, hf⟩ := h0
    obtain ⟨l, e, hm, hf⟩ := open_intl hf
    exact ⟨l, hf, by rw [e]; exact hm⟩
  clear hA0 hval0
  refine (walk (.slice a0 len0 cap0) l0 W w0).mono fun e W' ⟨he, bel⟩ => ?_
  subst he
  exact ⟨_, rfl, _, _, _, [], _, [], hW', trodAll_mk1 (shut_bool Try.underlying4 _), (trodAll_cons_mk (Below.trod laidOut (by kernel_rfl) (of_decide_eq_true (by kernel_rfl)) k0 bel lt0) trodAll_mk0), rfl, bel.frame _, fun h => by cases h⟩

theorem over : Rows.fnExactIsValidListRow.holds Try.pinned (OpenSpec.ofChange Rows.fnExactIsValidListSpec) :=
  OpenClaim.holds_of_wide 5 Try.f5 rfl rfl rfl rfl rfl rfl rfl ⟨rfl, rfl, rfl, rfl, rfl⟩ rfl rfl rfl rfl rfl (by kernel_rfl) Try.func5 (by kernel_rfl)
    (of_decide_eq_true (by kernel_rfl)) (by unfold Func.isWrapper; first | (rw [if_pos (by decide +kernel)]; kernel_rfl) | (rw [if_neg (by decide +kernel)]; exact ⟨rfl, rfl⟩))
    (fun os started H enc _ => lifted os started H enc)

theorem proved : Rows.FnExactIsValidListSaid := over
#print axioms proved
end Go.Proofs.Ytcbeoihgaccjcaa.fnExactIsValidList
