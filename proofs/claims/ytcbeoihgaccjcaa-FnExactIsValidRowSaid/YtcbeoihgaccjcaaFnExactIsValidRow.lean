/- FnExactIsValidRow returns true at every input. No condition. -/
import Derived.Test.YtcbeoihgaccjcaaRows
import Derived.WalkKit
import Derived.ProofKit
import Derived.OpenShut
import Derived.ShutString
import Derived.ChangeOld
import Derived.Below
import Derived.SliceStrings
import Derived.Test.YtcbeoihgaccjcaaRow
import Derived.Test.YtcbeoihgaccjcaaRowE
import Derived.Test.YtcbeoihgaccjcaaOpenRow
import Derived.Test.YtcbeoihgaccjcaaIRow
import Derived.Test.YtcbeoihgaccjcaaRowC
namespace Go.Proofs.Ytcbeoihgaccjcaa.fnExactIsValidRow
open Go.ChangeShapes Go.WideShapes Go.ChangeAt Go.RowKit
open Go.ChangeMaps (open_string shut_string)
set_option linter.unusedVariables false

theorem own : ownKnob Try.prog.godebug = none := by kernel_rfl
theorem laidOut : laidOutB Try.prog = true := by kernel_rfl

set_option maxRecDepth 100000 in
theorem walk (u0 : Value) (x0 : List ByteArray) (w : World) (w0 : StrsAt w u0 x0 ∧ x0.length ≤ maxLen ∧ ∀ (j : Nat) x, x0[j]? = some x → x.size ≤ maxLen) :
    Calls Try.prog 8 #[.agg #[u0]] w fun e w' => e = .returned (.bool true) ∧ Below w.heap.size w w' := by
  obtain ⟨hv, hn, hx⟩ := w0
  have hb0 : Below w.heap.size w (w.alloc (.cells #[u0] 51)) := (Below.refl _ w).alloc (Nat.le_refl _) _
  have hr0 : RowIs (w.alloc (.cells #[u0] 51)) w.heap.size 51 [u0] := heap_alloc_new w _
  have hv0 := hv.below hb0
  have HV := Lib.hid hv0
  have B0 := Lib.hid hb0
  have RP := Lib.hid (CellRow.of_row hr0)
  by_cases hl : x0.length + bytesOf x0 ≤ 1048576
  · have HSZ := Lib.hid (szRow_yes u0 x0 1048576 _ hv0 hl (by omega))
    have hl1 : x0.length ≤ 1048576 := by omega
    have HX : Hid (∀ (j : Nat) x, x0[j]? = some x → x.size ≤ 1048576) := Lib.hid (fun j x h => by have := bytesOf_mem h; omega)
    have h0 : 0 ≤ (1048576 : Int) - x0.length - bytesOf x0 := by omega
    clear hv hx hl hn hv0 hb0 hr0
    go_enter Try.func8, Try.ntmps8
    go_wp2_with fail
    refine HSZ.out.mono ?_
    rintro e w1 ⟨rfl, hb⟩
    have HV1 := Lib.hid (HV.out.below hb)
    have RP1 := Lib.hid (RP.out.below hb RP.out.1)
    have B1 := Lib.hid (B0.out.trans (hb.mono B0.out.size))
    have hp1 := (RP1.out.2 0 _ rfl).1
    clear hb HV RP B0 HSZ
    go_wp2_with fail
    refine (toRow_any u0 x0 w1 HV1.out hl1).mono ?_
    rintro e w2 ⟨g, rfl, hg, hr, hb⟩
    have HR2 := Lib.hid (FlatAt.strs (by have := hr.flat (n := x0.length) (c := x0.length) (Nat.le_refl _); exact this))
    have HV2 := Lib.hid (HV1.out.below hb)
    have RP2 := Lib.hid (RP1.out.below hb RP1.out.1)
    have B2 := Lib.hid (B1.out.trans (hb.mono B1.out.size))
    clear hb HV1 RP1 B1 hp1 hr hg
    go_wp2_with fail
    refine (specValidRow_any _ x0 w2 HR2.out hl1 HX.out).mono ?_
    rintro e w3 ⟨rfl, hb⟩
    have HV3 := Lib.hid (HV2.out.below hb)
    have RP3 := Lib.hid (RP2.out.below hb RP2.out.1)
    have B3 := Lib.hid (B2.out.trans (hb.mono B2.out.size))
    have hp3 := (RP3.out.2 0 _ rfl).1
    clear hb HV2 RP2 B2 HR2
    go_wp2_with fail
    refine (toRow_any u0 x0 w3 HV3.out hl1).mono ?_
    rintro e w4 ⟨gx, rfl, hg, hr, hb⟩
    have RX := Lib.hid (FlatAt.strs (by have := hr.flat (n := x0.length) (c := x0.length) (Nat.le_refl _); exact this))
    have HV4 := Lib.hid (HV3.out.below hb)
    have RP4 := Lib.hid (RP3.out.below hb RP3.out.1)
    have B4 := Lib.hid (B3.out.trans (hb.mono B3.out.size))
    clear hb HV3 RP3 B3 hp3 hr hg
    obtain ⟨W, hW⟩ : ∃ W, W = w4.alloc (.cells #[.slice (some ⟨gx, 0, none⟩) x0.length x0.length] 54) := ⟨_, rfl⟩
    have hbW : Below w4.heap.size w4 W := by rw [hW]; exact (Below.refl _ _).alloc (Nat.le_refl _) _
    have hrW : RowIs W w4.heap.size 54 [.slice (some ⟨gx, 0, none⟩) x0.length x0.length] := by unfold RowIs; rw [hW]; exact heap_alloc_new w4 _
    have RXW := Lib.hid (RX.out.below hbW)
    have RC := Lib.hid (CellRow.of_row hrW)
    have HVW := Lib.hid (HV4.out.below hbW)
    have RPW := Lib.hid (RP4.out.below hbW RP4.out.1)
    have BW := Lib.hid (B4.out.trans (hbW.mono B4.out.size))
    clear hbW hrW HV4 RP4 B4 RX
    go_wp2_with fail
    rw [← hW]
    clear hW
    refine (implValidRow_any _ x0 W RXW.out hl1 HX.out).mono ?_
    rintro e w5 ⟨rfl, hb⟩
    have RX5 := Lib.hid (RXW.out.below hb)
    have RC5 := Lib.hid (RC.out.below hb RC.out.1)
    have HV5 := Lib.hid (HVW.out.below hb)
    have RP5 := Lib.hid (RPW.out.below hb RPW.out.1)
    have B5 := Lib.hid (BW.out.trans (hb.mono BW.out.size))
    have hp5 := (RP5.out.2 0 _ rfl).1
    have hc5 := (RC5.out.2 0 _ rfl).1
    have HL5 := Lib.hid (fun W (hb : Below w5.heap.size w5 W) => (RC5.out.below hb RC5.out.1).2 0 _ rfl)
    clear hb HVW RPW BW RXW RC
    have D5 : Hid (∀ n, Below w5.heap.size w5 (w5.drewN n)) := Lib.hid fun n => ⟨rfl, rfl, rfl, Nat.le_refl _, fun _ _ => rfl⟩
    go_wp2_with fail
    go_region_with (first
      | (go_at_call 36; refine (toRow_any u0 x0 _ (HV5.out.below (D5.out 1)) hl1).mono ?_; rintro e w6 ⟨gy, rfl, hg, hr, hb⟩; have RY := Lib.hid (FlatAt.strs (by have := hr.flat (n := x0.length) (c := x0.length) (Nat.le_refl _); exact this)); have RX6 := Lib.hid ((RX5.out.below (D5.out 1)).below hb); have hc6 := (HL5.out _ ((D5.out 1).trans hb)).1; have B6 := Lib.hid ((B5.out.trans ((D5.out 1).mono B5.out.size)).trans (hb.mono B5.out.size)))
      | (go_at_call 38; refine (eqRow_yes _ _ x0 _ RX6.out RY.out hl1).mono ?_; rintro e w7 ⟨rfl, hb7⟩))
    all_goals
      have B7 := Lib.hid (B6.out.trans (hb7.mono B6.out.size))
      go_wp2_with fail
      go_ret
      exact ⟨rfl, B7.out⟩
  · have HSZ := Lib.hid (szRow_no u0 x0 1048576 _ hv0 (by omega) (by omega) hn hx)
    clear hl HV hv hx hn hv0 hb0 hr0 RP
    go_enter Try.func8, Try.ntmps8
    go_wp2_with fail
    refine HSZ.out.mono ?_
    rintro e w1 ⟨rfl, hb⟩
    have B1 := Lib.hid (B0.out.trans (hb.mono B0.out.size))
    clear hb
    go_wp2_with fail
    go_ret
    exact ⟨rfl, B1.out⟩

set_option maxRecDepth 100000 in
theorem lifted (os : Os) (started : os.Started) (H : Type) (enc : TypeId × Value → H) :
    ReturnsInHanded {} Try.checked os 8 .any (Rows.fnExactIsValidRowSpec.pre6 enc Try.prog Try.f8 Rows.fnExactIsValidRowRow.domain false) (Rows.fnExactIsValidRowSpec.post enc Try.prog Try.f8 false true false false) := by
  refine returnsInHanded_of_change (C := Try.checked) own started (by kernel_rfl) Try.func8
    (ChangeSpec.witness6 (enc := enc) (C := Try.checked) false ⟨#[], #[.agg #[.slice none 0 0]], []⟩ 8 (by kernel_rfl) (by kernel_rfl) (by kernel_rfl) (by kernel_rfl)) ?_
  intro W base args ds gs before hval0 hW hcnd _
  have hval : ∀ (j : Nat) t v, Try.f8.params[j]? = some t → args[j]? = some v → Value.okWide Try.prog W .any base t v := hval0
  have hW' := hW
  obtain ⟨p, q, hA0, hV, rfl, hfz, hnd⟩ := hW
  have hA : DataW.TrodAll enc Try.prog W 0 (fun _ => true) true Try.f8.params.toList args.toList ds p := hA0
  rw [Try.params8] at hA hval
  obtain ⟨v0, vs0, d0, ds0, p0, q0, hargs, rfl, rfl, h0, r0⟩ := trodAll_cons hA
  obtain ⟨rfl, rfl, rfl⟩ := trodAll_nil r0
  obtain rfl : args = #[v0] := by cases args; simp_all
  obtain ⟨rfl, rfl⟩ := trodVars_none hV
  obtain ⟨u0, x0, rfl, w0⟩ : ∃ (u : Value) (xs : List ByteArray), v0 = .agg #[u] ∧ StrsAt W u xs ∧ xs.length ≤ maxLen ∧ ∀ (j : Nat) x, xs[j]? = some x → x.size ≤ maxLen := by
    obtain ⟨fuel, hf⟩ := h0
    exact open_row (hval 0 51 v0 rfl rfl) hf
  have k0 := h0
  have lt0 : ∀ x ∈ p0, x.block < W.heap.size := by obtain ⟨m, hm⟩ := k0; exact DataW.trod_lt m _ _ _ hm
  clear hA0 hval0
  refine (walk u0 x0 W w0).mono fun e W' ⟨he, bel⟩ => ?_
  subst he
  exact ⟨_, rfl, _, _, _, [], _, [], hW', trodAll_mk1 (shut_bool Try.underlying4 _), (trodAll_cons_mk (Below.trod laidOut (by kernel_rfl) (of_decide_eq_true (by kernel_rfl)) k0 bel lt0) trodAll_mk0), rfl, bel.frame _, fun h => by cases h⟩

theorem over : Rows.fnExactIsValidRowRow.holds Try.pinned (OpenSpec.ofChange Rows.fnExactIsValidRowSpec) :=
  OpenClaim.holds_of_wide 8 Try.f8 rfl rfl rfl rfl rfl rfl rfl ⟨rfl, rfl, rfl, rfl, rfl⟩ rfl rfl rfl rfl rfl (by kernel_rfl) Try.func8 (by kernel_rfl)
    (of_decide_eq_true (by kernel_rfl)) (by unfold Func.isWrapper; first | (rw [if_pos (by decide +kernel)]; kernel_rfl) | (rw [if_neg (by decide +kernel)]; exact ⟨rfl, rfl⟩))
    (fun os started H enc _ => lifted os started H enc)

theorem proved : Rows.FnExactIsValidRowSaid := over
#print axioms proved
end Go.Proofs.Ytcbeoihgaccjcaa.fnExactIsValidRow
