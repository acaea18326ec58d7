/- FnExactMinMax returns true at every input. No condition. -/
import Derived.Test.YthmcjmjkmmbepaaRows
import Derived.WalkKit
import Derived.ProofKit
import Derived.OpenShut
import Derived.ShutString
import Derived.ChangeOld
import Derived.Below
import Derived.SliceStrings
import Derived.Test.YthmcjmjkmmbepaaHead
import Derived.Test.YthmcjmjkmmbepaaIntSE
import Derived.Test.YthmcjmjkmmbepaaOpenI
import Derived.Test.YthmcjmjkmmbepaaIMm
import Derived.Test.YthmcjmjkmmbepaaSMm
namespace Go.Proofs.Ythmcjmjkmmbepaa.fnExactMinMax
open Go.ChangeShapes Go.WideShapes Go.ChangeAt Go.RowKit
open Go.ChangeMaps (open_string shut_string)
set_option linter.unusedVariables false

theorem own : ownKnob Try.prog.godebug = none := by kernel_rfl
theorem laidOut : laidOutB Try.prog = true := by kernel_rfl

set_option maxRecDepth 100000 in
set_option maxHeartbeats 4000000 in
theorem walk (v0 : Value) (l0 : List Int) (w : World) (w0 : FlatAt w v0 l0.length (ints l0) ∧ l0.length ≤ maxLen) :
    Calls Try.prog 7 #[v0] w fun e w' => e = .returned (.bool true) ∧ Below w.heap.size w w' := by
  have hv0 := w0.1
  obtain ⟨s0, c0, rfl, hx0, hx1⟩ := w0.1
  clear hx0 hx1
  have hn0 := w0.2
  unfold maxLen at hn0
  clear w0
  have HV0 := Lib.hid hv0
  clear hv0
  obtain ⟨R, hR⟩ : ∃ R, R = Sl.mmAll l0 := ⟨_, rfl⟩
  have HS : Hid (∀ (x0 o0 k0 : Nat) (W : World) (h0 : FlatAt W (.slice (some ⟨x0, o0, none⟩) l0.length k0) l0.length (ints l0)) (b0 : l0.length ≤ 1048576), Calls Try.prog 33 #[(.slice (some ⟨x0, o0, none⟩) l0.length k0)] W (fun e w' => e = .returned (.tuple #[.int .i64 R.1, .int .i64 R.2.1, .int .i64 R.2.2.1, .bool R.2.2.2]) ∧ Below W.heap.size W w')) := Lib.hid (fun x0 o0 k0 W h0 b0 => by rw [hR]; exact specMm_any x0 o0 k0 l0 W h0 b0)
  have HI : Hid (∀ (x0 o0 k0 : Nat) (W : World) (h0 : FlatAt W (.slice (some ⟨x0, o0, none⟩) l0.length k0) l0.length (ints l0)) (b0 : l0.length ≤ 1048576), Calls Try.prog 18 #[(.slice (some ⟨x0, o0, none⟩) l0.length k0)] W (fun e w' => e = .returned (.tuple #[.int .i64 R.1, .int .i64 R.2.1, .int .i64 R.2.2.1, .bool R.2.2.2]) ∧ Below W.heap.size W w')) := Lib.hid (fun x0 o0 k0 W h0 b0 => by rw [hR]; exact implMm_any x0 o0 k0 l0 W h0 b0)
  clear hR
  obtain ⟨R1, R2, R3, R4⟩ := R
  by_cases hl0 : l0.length ≤ 1048576
  case neg =>
    clear HS HI
    have hg0 : (1048576 : Int) < l0.length := by omega
    go_enter Try.func7, Try.ntmps7
    go_wp2_with fail
    go_ret
    exact ⟨rfl, Below.refl _ _⟩
  have B0 : Hid (Below w.heap.size w w) := Lib.hid (Below.refl _ _)
  go_enter Try.func7, Try.ntmps7
  go_wp2_with fail
  refine (toIntS_any _ l0 w (HV0.out.below B0.out) hl0).mono ?_
  rintro e w_1 ⟨rfl, hr, hb⟩
  have S0 := Lib.hid (CellRow.of_row hr)
  have BN := Lib.hid (B0.out.trans (hb.mono B0.out.size))
  clear B0
  have B1 := BN
  clear BN
  clear hr hb
  go_wp2_with fail
  refine (HS.out _ _ _ w_1 (S0.out.flat (Nat.le_refl _)) hl0).mono ?_
  rintro e w_2 ⟨rfl, hb⟩
  have S0z := Lib.hid (S0.out.below hb S0.out.1)
  clear S0
  have S0 := S0z
  clear S0z
  have BN := Lib.hid (B1.out.trans (hb.mono B1.out.size))
  clear B1
  have B2 := BN
  clear BN
  clear hb
  clear S0
  clear HS
  go_wp2_with fail
  refine (toIntS_any _ l0 w_2 (HV0.out.below B2.out) hl0).mono ?_
  rintro e w_3 ⟨rfl, hr, hb⟩
  have X0 := Lib.hid (CellRow.of_row hr)
  have lox0 : w.heap.size ≤ w_2.heap.size := B2.out.size
  have BN := Lib.hid (B2.out.trans (hb.mono B2.out.size))
  clear B2
  have B3 := BN
  clear BN
  clear hr hb
  obtain ⟨gx0, hgxe⟩ : ∃ gx, gx = w_2.heap.size := ⟨_, rfl⟩
  rw [← hgxe] at X0 lox0  ⊢
  clear hgxe
  go_wp2_with fail
  refine (HI.out _ _ _ w_3 (X0.out.flat (Nat.le_refl _)) hl0).mono ?_
  rintro e w_4 ⟨rfl, hb⟩
  have X0z := Lib.hid (X0.out.below hb X0.out.1)
  clear X0
  have X0 := X0z
  clear X0z
  have BN := Lib.hid (B3.out.trans (hb.mono B3.out.size))
  clear B3
  have B4 := BN
  clear BN
  clear hb
  go_wp2_with fail
  refine (toIntS_any _ l0 w_4 (HV0.out.below B4.out) hl0).mono ?_
  rintro e w_5 ⟨rfl, hr, hb⟩
  have Y := Lib.hid (CellRow.of_row hr)
  have X0z := Lib.hid (X0.out.below hb X0.out.1)
  clear X0
  have X0 := X0z
  clear X0z
  have BN := Lib.hid (B4.out.trans (hb.mono B4.out.size))
  clear B4
  have B5 := BN
  clear BN
  clear hr hb
  go_wp2_with fail
  refine (eqIntS_yes _ _ l0 w_5 (X0.out.flat (Nat.le_refl _)) (Y.out.flat (Nat.le_refl _)) hl0).mono ?_
  rintro e w_6 ⟨rfl, hb⟩
  have X0z := Lib.hid (X0.out.below hb X0.out.1)
  have Yz := Lib.hid (Y.out.below hb Y.out.1)
  clear X0
  have X0 := X0z
  clear X0z
  clear Y
  have Y := Yz
  clear Yz
  have BN := Lib.hid (B5.out.trans (hb.mono B5.out.size))
  clear B5
  have B6 := BN
  clear BN
  clear hb
  go_wp2_with fail
  clear Y
  go_ret
  exact ⟨rfl, B6.out⟩

set_option maxRecDepth 100000 in
theorem lifted (os : Os) (started : os.Started) (H : Type) (enc : TypeId × Value → H) :
    ReturnsInHanded {} Try.checked os 7 .any (Rows.fnExactMinMaxSpec.pre6 enc Try.prog Try.f7 Rows.fnExactMinMaxRow.domain false) (Rows.fnExactMinMaxSpec.post enc Try.prog Try.f7 false true false false) := by
  refine returnsInHanded_of_change (C := Try.checked) own started (by kernel_rfl) Try.func7
    (ChangeSpec.witness6 (enc := enc) (C := Try.checked) false ⟨#[], #[.slice none 0 0], []⟩ 8 (by kernel_rfl) (by kernel_rfl) (by kernel_rfl) (by kernel_rfl)) ?_
  intro W base args ds gs before hval0 hW hcnd _
  have hval : ∀ (j : Nat) t v, Try.f7.params[j]? = some t → args[j]? = some v → Value.okWide Try.prog W .any base t v := hval0
  have hW' := hW
  obtain ⟨p, q, hA0, hV, rfl, hfz, hnd⟩ := hW
  have hA : DataW.TrodAll enc Try.prog W 0 (fun _ => true) true Try.f7.params.toList args.toList ds p := hA0
  rw [Try.params7] at hA hval
  obtain ⟨v0, vs0, d0, ds0, p0, q0, hargs, rfl, rfl, h0, r0⟩ := trodAll_cons hA
  obtain ⟨rfl, rfl, rfl⟩ := trodAll_nil r0
  obtain rfl : args = #[v0] := by cases args; simp_all
  obtain ⟨rfl, rfl⟩ := trodVars_none hV
  obtain ⟨a0, len0, cap0, rfl⟩ := okWide_slice Try.underlying34 (hval 0 34 v0 rfl rfl)
  have k0 := h0
  have lt0 : ∀ x ∈ p0, x.block < W.heap.size := by obtain ⟨m, hm⟩ := k0; exact DataW.trod_lt m _ _ _ hm
  obtain ⟨l0, w0⟩ : ∃ l : List Int, FlatAt W (.slice a0 len0 cap0) l.length (ints l) ∧ l.length ≤ maxLen := by
    obtain ⟨fuel, hf⟩ := h0
    obtain ⟨l, e, hm, hf⟩ := open_intl hf
    exact ⟨l, hf, by rw [e]; exact hm⟩
  clear hA0 hval0
  refine (walk (.slice a0 len0 cap0) l0 W w0).mono fun e W' ⟨he, bel⟩ => ?_
  subst he
  exact ⟨_, rfl, _, _, _, [], _, [], hW', trodAll_mk1 (shut_bool Try.underlying4 _), (trodAll_cons_mk (Below.trod laidOut (by kernel_rfl) (of_decide_eq_true (by kernel_rfl)) k0 bel lt0) trodAll_mk0), rfl, bel.frame _, fun h => by cases h⟩

theorem closed : joinedFacts Try.prog 7 Try.f7 Rows.fnExactMinMaxSpec Rows.fnExactMinMaxRow = true := by
  unfold joinedFacts
  rw [head_enter, head_final, head_make]
  kernel_rfl

theorem over : Rows.fnExactMinMaxRow.holds Try.pinned (OpenSpec.ofChange Rows.fnExactMinMaxSpec) :=
  OpenClaim.holds_of_wide 7 Try.f7 rfl rfl rfl rfl rfl rfl rfl ⟨rfl, rfl, rfl, rfl, rfl⟩ rfl rfl rfl rfl rfl (by kernel_rfl) Try.func7 closed
    (of_decide_eq_true (by kernel_rfl)) (by unfold Func.isWrapper; first | (rw [if_pos (by decide +kernel)]; kernel_rfl) | (rw [if_neg (by decide +kernel)]; exact ⟨rfl, rfl⟩))
    (fun os started H enc _ => lifted os started H enc)

theorem proved : Rows.FnExactMinMaxSaid := over
#print axioms proved
end Go.Proofs.Ythmcjmjkmmbepaa.fnExactMinMax
