/- FnExactPassesNeeded returns true at every input. No condition. -/
import Derived.Test.YtebipiehkmhaiaaRows
import Derived.WalkKit
import Derived.ProofKit
import Derived.OpenShut
import Derived.ShutString
import Derived.ChangeOld
import Derived.Below
import Derived.SliceStrings
import Derived.Test.YtebipiehkmhaiaaHead
import Derived.Test.YtebipiehkmhaiaaRecS
import Derived.Test.YtebipiehkmhaiaaRecSE
import Derived.Test.YtebipiehkmhaiaaRecSM
import Derived.Test.YtebipiehkmhaiaaRecSH
import Derived.Test.YtebipiehkmhaiaaOpenR
import Derived.Test.YtebipiehkmhaiaaSRad2
import Derived.Test.YtebipiehkmhaiaaIRad3
namespace Go.Proofs.Ytebipiehkmhaiaa.fnExactPassesNeeded
open Go.ChangeShapes Go.WideShapes Go.ChangeAt Go.RowKit
open Go.ChangeMaps (open_string shut_string)
set_option linter.unusedVariables false

theorem own : ownKnob Try.prog.godebug = none := by kernel_rfl
theorem laidOut : laidOutB Try.prog = true := by kernel_rfl

set_option maxRecDepth 100000 in
set_option maxHeartbeats 8000000 in
theorem walk (v0 : Value) (l0 : List (Int × Int)) (a1 : Int) (w : World) (w0 : FlatAt w v0 l0.length (recs l0) ∧ l0.length ≤ maxLen) (w1 : (Lit.int .i64 a1).wf = true) :
    Calls Try.prog 12 #[v0, .int .i64 a1] w fun e w' => e = .returned (.bool true) ∧ Below w.heap.size w w' := by
  have hv0 := w0.1
  obtain ⟨s0, c0, rfl, hx0, hx1⟩ := w0.1
  clear hx0 hx1
  have hn0 := w0.2
  unfold maxLen at hn0
  clear w0
  have HV0 := Lib.hid hv0
  clear hv0
  obtain ⟨R, hR⟩ : ∃ R, R = pnAll l0 a1 := ⟨_, rfl⟩
  have HS : Hid (∀ (x0 o0 k0 : Nat) (W : World) (h0 : FlatAt W (.slice (some ⟨x0, o0, none⟩) l0.length k0) l0.length (recs l0)) (b0 : l0.length ≤ 1048576), Calls Try.prog 51 #[(.slice (some ⟨x0, o0, none⟩) l0.length k0), .int .i64 a1] W (fun e w' => e = .returned (.tuple #[.int .i64 R.1, .bool R.2]) ∧ Below W.heap.size W w')) := Lib.hid (fun x0 o0 k0 W h0 b0 => by rw [hR]; exact specPn_any x0 o0 k0 l0 a1 W h0 b0)
  have HI : Hid (∀ (x0 o0 k0 : Nat) (W : World) (h0 : FlatAt W (.slice (some ⟨x0, o0, none⟩) l0.length k0) l0.length (recs l0)) (b0 : l0.length ≤ 1048576), Calls Try.prog 26 #[(.slice (some ⟨x0, o0, none⟩) l0.length k0), .int .i64 a1] W (fun e w' => e = .returned (.tuple #[.int .i64 R.1, .bool R.2]) ∧ Below W.heap.size W w')) := Lib.hid (fun x0 o0 k0 W h0 b0 => by rw [hR]; exact implPn_any x0 o0 k0 l0 a1 W h0 b0)
  clear hR
  obtain ⟨R1, R2⟩ := R
  by_cases hg0 : l0.length ≤ 1048576
  case neg =>
    clear HS HI
    have HSZ0 := Lib.hid (fun W => szRec_no s0 l0.length c0 1048576 W (by omega) (by omega) (by unfold maxLen; omega))
    go_enter Try.func12, Try.ntmps12
    go_wp2_with fail
    refine (HSZ0.out _).mono ?_
    rintro e wz0 ⟨rfl, rfl⟩
    go_wp2_with fail
    go_ret
    exact ⟨rfl, Below.refl _ _⟩
  obtain ⟨r0, hr0⟩ : ∃ r, r = 1048576 - l0.length := ⟨_, rfl⟩
  have HSZ0 := Lib.hid (fun W => szRec_yes s0 l0.length c0 1048576 W hg0 (by omega))
  rw [← hr0] at HSZ0
  have hl0 : l0.length ≤ 1048576 := by omega
  have hpos0 : ¬ ((r0 : Nat) : Int) < 0 := by omega
  clear hg0 hr0 hn0
  go_enter Try.func12, Try.ntmps12
  go_wp2_with fail
  refine (HSZ0.out _).mono ?_
  rintro e wz0 ⟨rfl, rfl⟩
  clear HSZ0 hpos0
  go_wp2_with fail
  have B0 : Hid (Below wz0.heap.size wz0 wz0) := Lib.hid (Below.refl _ _)
  refine (toRecS_any _ l0 wz0 (HV0.out.below B0.out) hl0).mono ?_
  rintro e w_1 ⟨rfl, hr, hb⟩
  have S0 := Lib.hid (CellRow.of_row hr)
  have BN := Lib.hid (B0.out.trans (hb.mono B0.out.size))
  clear B0
  have B1 := BN
  clear BN
  clear hr hb
  go_wp2_with fail
  refine (HS.out _ _ _ w_1 (S0.out.flat (Nat.le_refl _)) hl0).mono ?_
  rintro e w_2 ⟨rfl, hb⟩
  have S0z := Lib.hid (S0.out.below hb S0.out.1)
  clear S0
  have S0 := S0z
  clear S0z
  have BN := Lib.hid (B1.out.trans (hb.mono B1.out.size))
  clear B1
  have B2 := BN
  clear BN
  clear hb
  clear S0
  clear HS
  go_wp2_with fail
  refine (toRecS_any _ l0 w_2 (HV0.out.below B2.out) hl0).mono ?_
  rintro e w_3 ⟨rfl, hr, hb⟩
  have X0 := Lib.hid (CellRow.of_row hr)
  have lox0 : wz0.heap.size ≤ w_2.heap.size := B2.out.size
  have BN := Lib.hid (B2.out.trans (hb.mono B2.out.size))
  clear B2
  have B3 := BN
  clear BN
  clear hr hb
  obtain ⟨gx0, hgxe⟩ : ∃ gx, gx = w_2.heap.size := ⟨_, rfl⟩
  rw [← hgxe] at X0 lox0  ⊢
  clear hgxe
  go_wp2_with fail
  refine (HI.out _ _ _ w_3 (X0.out.flat (Nat.le_refl _)) hl0).mono ?_
  rintro e w_4 ⟨rfl, hb⟩
  have X0z := Lib.hid (X0.out.below hb X0.out.1)
  clear X0
  have X0 := X0z
  clear X0z
  have BN := Lib.hid (B3.out.trans (hb.mono B3.out.size))
  clear B3
  have B4 := BN
  clear BN
  clear hb
  go_wp2_with fail
  refine (toRecS_any _ l0 w_4 (HV0.out.below B4.out) hl0).mono ?_
  rintro e w_5 ⟨rfl, hr, hb⟩
  have Y := Lib.hid (CellRow.of_row hr)
  have X0z := Lib.hid (X0.out.below hb X0.out.1)
  clear X0
  have X0 := X0z
  clear X0z
  have BN := Lib.hid (B4.out.trans (hb.mono B4.out.size))
  clear B4
  have B5 := BN
  clear BN
  clear hr hb
  go_wp2_with fail
  refine (eqRecS_yes _ _ l0 w_5 (X0.out.flat (Nat.le_refl _)) (Y.out.flat (Nat.le_refl _)) hl0).mono ?_
  rintro e w_6 ⟨rfl, hb⟩
  have X0z := Lib.hid (X0.out.below hb X0.out.1)
  have Yz := Lib.hid (Y.out.below hb Y.out.1)
  clear X0
  have X0 := X0z
  clear X0z
  clear Y
  have Y := Yz
  clear Yz
  have BN := Lib.hid (B5.out.trans (hb.mono B5.out.size))
  clear B5
  have B6 := BN
  clear BN
  clear hb
  go_wp2_with fail
  clear Y
  go_ret
  exact ⟨rfl, B6.out⟩

set_option maxRecDepth 100000 in
theorem lifted (os : Os) (started : os.Started) (H : Type) (enc : TypeId × Value → H) :
    ReturnsInHanded {} Try.checked os 12 .any (Rows.fnExactPassesNeededSpec.pre6 enc Try.prog Try.f12 Rows.fnExactPassesNeededRow.domain false) (Rows.fnExactPassesNeededSpec.post enc Try.prog Try.f12 false true false false) := by
  refine returnsInHanded_of_change (C := Try.checked) own started (by kernel_rfl) Try.func12
    (ChangeSpec.witness6 (enc := enc) (C := Try.checked) false ⟨#[], #[.slice none 0 0, .int .i64 0], []⟩ 8 (by kernel_rfl) (by kernel_rfl) (by kernel_rfl) (by kernel_rfl)) ?_
  intro W base args ds gs before hval0 hW hcnd _
  have hval : ∀ (j : Nat) t v, Try.f12.params[j]? = some t → args[j]? = some v → Value.okWide Try.prog W .any base t v := hval0
  have hW' := hW
  obtain ⟨p, q, hA0, hV, rfl, hfz, hnd⟩ := hW
  have hA : DataW.TrodAll enc Try.prog W 0 (fun _ => true) true Try.f12.params.toList args.toList ds p := hA0
  rw [Try.params12] at hA hval
  obtain ⟨v0, vs0, d0, ds0, p0, q0, hargs, rfl, rfl, h0, r0⟩ := trodAll_cons hA
  obtain ⟨v1, vs1, d1, ds1, p1, q1, rfl, rfl, rfl, h1, r1⟩ := trodAll_cons r0
  obtain ⟨rfl, rfl, rfl⟩ := trodAll_nil r1
  obtain rfl : args = #[v0, v1] := by cases args; simp_all
  obtain ⟨rfl, rfl⟩ := trodVars_none hV
  obtain ⟨a0, len0, cap0, rfl⟩ := okWide_slice Try.underlying56 (hval 0 56 v0 rfl rfl)
  have k0 := h0
  have lt0 : ∀ x ∈ p0, x.block < W.heap.size := by obtain ⟨m, hm⟩ := k0; exact DataW.trod_lt m _ _ _ hm
  obtain ⟨l0, w0⟩ : ∃ l : List (Int × Int), FlatAt W (.slice a0 len0 cap0) l.length (recs l) ∧ l.length ≤ maxLen := by
    obtain ⟨fuel, hf⟩ := h0
    obtain ⟨l, e, hm, hf⟩ := open_recs hf
    exact ⟨l, hf, by rw [e]; exact hm⟩
  obtain ⟨a1, rfl, rfl, rfl, w1⟩ := open_int Try.underlying3 (hval 1 3 v1 rfl rfl) h1
  clear hA0 hval0
  refine (walk (.slice a0 len0 cap0) l0 a1 W w0 w1).mono fun e W' ⟨he, bel⟩ => ?_
  subst he
  exact ⟨_, rfl, _, _, _, [], _, [], hW', trodAll_mk1 (shut_bool Try.underlying4 _), (trodAll_cons_mk (Below.trod laidOut (by kernel_rfl) (of_decide_eq_true (by kernel_rfl)) k0 bel lt0) (trodAll_cons_mk (shut_int Try.underlying3 w1) trodAll_mk0)), rfl, bel.frame _, fun h => by cases h⟩

theorem closed : joinedFacts Try.prog 12 Try.f12 Rows.fnExactPassesNeededSpec Rows.fnExactPassesNeededRow = true := by
  unfold joinedFacts
  rw [head_enter, head_final, head_make]
  kernel_rfl

theorem over : Rows.fnExactPassesNeededRow.holds Try.pinned (OpenSpec.ofChange Rows.fnExactPassesNeededSpec) :=
  OpenClaim.holds_of_wide 12 Try.f12 rfl rfl rfl rfl rfl rfl rfl ⟨rfl, rfl, rfl, rfl, rfl⟩ rfl rfl rfl rfl rfl (by kernel_rfl) Try.func12 closed
    (of_decide_eq_true (by kernel_rfl)) (by unfold Func.isWrapper; first | (rw [if_pos (by decide +kernel)]; kernel_rfl) | (rw [if_neg (by decide +kernel)]; exact ⟨rfl, rfl⟩))
    (fun os started H enc _ => lifted os started H enc)

theorem proved : Rows.FnExactPassesNeededSaid := over
#print axioms proved
end Go.Proofs.Ytebipiehkmhaiaa.fnExactPassesNeeded
