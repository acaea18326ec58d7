/- FnExactKendallDistance returns true at every input. No condition. -/
import Derived.Test.YtjlldjekjnlcaaaRows
import Derived.WalkKit
import Derived.ProofKit
import Derived.OpenShut
import Derived.ShutString
import Derived.ChangeOld
import Derived.Below
import Derived.SliceStrings
import Derived.Test.YtjlldjekjnlcaaaHead
import Derived.Test.YtjlldjekjnlcaaaIntS
import Derived.Test.YtjlldjekjnlcaaaIntSE
import Derived.Test.YtjlldjekjnlcaaaOpenI
import Derived.Test.YtjlldjekjnlcaaaIRnk
import Derived.Test.YtjlldjekjnlcaaaSKd
namespace Go.Proofs.Ytjlldjekjnlcaaa.fnExactKendallDistance
open Go.ChangeShapes Go.WideShapes Go.ChangeAt Go.RowKit
open Go.ChangeMaps (open_string shut_string)
set_option linter.unusedVariables false

theorem own : ownKnob Try.prog.godebug = none := by kernel_rfl
theorem laidOut : laidOutB Try.prog = true := by kernel_rfl

set_option maxRecDepth 100000 in
set_option maxHeartbeats 4000000 in
theorem walk (v0 : Value) (l0 : List Int) (v1 : Value) (l1 : List Int) (w : World) (w0 : FlatAt w v0 l0.length (ints l0) ∧ l0.length ≤ maxLen) (w1 : FlatAt w v1 l1.length (ints l1) ∧ l1.length ≤ maxLen) :
    Calls Try.prog 10 #[v0, v1] w fun e w' => e = .returned (.bool true) ∧ Below w.heap.size w w' := by
  have hv0 := w0.1
  obtain ⟨s0, c0, rfl, hx0, hx1⟩ := w0.1
  clear hx0 hx1
  have hn0 := w0.2
  unfold maxLen at hn0
  clear w0
  have HV0 := Lib.hid hv0
  clear hv0
  have hv1 := w1.1
  obtain ⟨s1, c1, rfl, hx0, hx1⟩ := w1.1
  clear hx0 hx1
  have hn1 := w1.2
  unfold maxLen at hn1
  clear w1
  have HV1 := Lib.hid hv1
  clear hv1
  obtain ⟨R, hR⟩ : ∃ R, R = Iv.kdF l0 l1 := ⟨_, rfl⟩
  have HS : Hid (∀ (u0 : Value) (u1 : Value) (W : World) (h0 : FlatAt W u0 l0.length (ints l0)) (h1 : FlatAt W u1 l1.length (ints l1)) (b0 : l0.length ≤ 1048576) (b1 : l1.length ≤ 1048576), Calls Try.prog 42 #[u0, u1] W (fun e w' => e = .returned (.tuple #[.int .i64 R.1, .bool R.2]) ∧ Below W.heap.size W w')) := Lib.hid (fun u0 u1 W h0 h1 b0 b1 => by rw [hR]; exact (fun u l v m W h b i d => specKd_any u l v m W h b i d) u0 l0 u1 l1 W h0 b0 h1 b1)
  have HI : Hid (∀ (u0 : Value) (u1 : Value) (W : World) (h0 : FlatAt W u0 l0.length (ints l0)) (h1 : FlatAt W u1 l1.length (ints l1)) (b0 : l0.length ≤ 1048576) (b1 : l1.length ≤ 1048576), Calls Try.prog 27 #[u0, u1] W (fun e w' => e = .returned (.tuple #[.int .i64 R.1, .bool R.2]) ∧ Below W.heap.size W w')) := Lib.hid (fun u0 u1 W h0 h1 b0 b1 => by rw [hR]; exact (fun u l v m W h b i d => implKd_any u l v m W h b i d) u0 l0 u1 l1 W h0 b0 h1 b1)
  clear hR
  obtain ⟨R1, R2⟩ := R
  by_cases hl0 : l0.length ≤ 1048576
  case neg =>
    clear HS HI
    have hg0 : (1048576 : Int) < l0.length := by omega
    go_enter Try.func10, Try.ntmps10
    go_wp2_with fail
    go_ret
    exact ⟨rfl, Below.refl _ _⟩
  by_cases hl1 : l1.length ≤ 1048576
  case neg =>
    clear HS HI
    have hg1 : (1048576 : Int) < l1.length := by omega
    go_enter Try.func10, Try.ntmps10
    go_wp2_with fail
    go_ret
    exact ⟨rfl, Below.refl _ _⟩
  have B0 : Hid (Below w.heap.size w w) := Lib.hid (Below.refl _ _)
  go_enter Try.func10, Try.ntmps10
  go_wp2_with fail
  refine (toIntS_any _ l0 w (HV0.out.below B0.out) hl0).mono ?_
  rintro e w_1 ⟨rfl, hr, hb⟩
  have S0 := Lib.hid (CellRow.of_row hr)
  have BN := Lib.hid (B0.out.trans (hb.mono B0.out.size))
  clear B0
  have B1 := BN
  clear BN
  clear hr hb
  go_wp2_with fail
  refine (toIntS_any _ l1 w_1 (HV1.out.below B1.out) hl1).mono ?_
  rintro e w_2 ⟨rfl, hr, hb⟩
  have S1 := Lib.hid (CellRow.of_row hr)
  have S0z := Lib.hid (S0.out.below hb S0.out.1)
  clear S0
  have S0 := S0z
  clear S0z
  have BN := Lib.hid (B1.out.trans (hb.mono B1.out.size))
  clear B1
  have B2 := BN
  clear BN
  clear hr hb
  go_wp2_with fail
  refine (HS.out _ _ w_2 (S0.out.flat (Nat.le_refl _)) (S1.out.flat (Nat.le_refl _)) hl0 hl1).mono ?_
  rintro e w_3 ⟨rfl, hb⟩
  have S0z := Lib.hid (S0.out.below hb S0.out.1)
  have S1z := Lib.hid (S1.out.below hb S1.out.1)
  clear S0
  have S0 := S0z
  clear S0z
  clear S1
  have S1 := S1z
  clear S1z
  have BN := Lib.hid (B2.out.trans (hb.mono B2.out.size))
  clear B2
  have B3 := BN
  clear BN
  clear hb
  clear S0 S1
  clear HS
  go_wp2_with fail
  refine (toIntS_any _ l0 w_3 (HV0.out.below B3.out) hl0).mono ?_
  rintro e w_4 ⟨rfl, hr, hb⟩
  have X0 := Lib.hid (CellRow.of_row hr)
  have lox0 : w.heap.size ≤ w_3.heap.size := B3.out.size
  have BN := Lib.hid (B3.out.trans (hb.mono B3.out.size))
  clear B3
  have B4 := BN
  clear BN
  clear hr hb
  obtain ⟨gx0, hgxe⟩ : ∃ gx, gx = w_3.heap.size := ⟨_, rfl⟩
  rw [← hgxe] at X0 lox0  ⊢
  clear hgxe
  go_wp2_with fail
  refine (toIntS_any _ l1 w_4 (HV1.out.below B4.out) hl1).mono ?_
  rintro e w_5 ⟨rfl, hr, hb⟩
  have X1 := Lib.hid (CellRow.of_row hr)
  have lox1 : w.heap.size ≤ w_4.heap.size := B4.out.size
  have ltx1X0 := X0.out.1
  have X0z := Lib.hid (X0.out.below hb X0.out.1)
  clear X0
  have X0 := X0z
  clear X0z
  have BN := Lib.hid (B4.out.trans (hb.mono B4.out.size))
  clear B4
  have B5 := BN
  clear BN
  clear hr hb
  obtain ⟨gx1, hgxe⟩ : ∃ gx, gx = w_4.heap.size := ⟨_, rfl⟩
  rw [← hgxe] at X1 lox1 ltx1X0 ⊢
  clear hgxe
  go_wp2_with fail
  refine (HI.out _ _ w_5 (X0.out.flat (Nat.le_refl _)) (X1.out.flat (Nat.le_refl _)) hl0 hl1).mono ?_
  rintro e w_6 ⟨rfl, hb⟩
  have X0z := Lib.hid (X0.out.below hb X0.out.1)
  have X1z := Lib.hid (X1.out.below hb X1.out.1)
  clear X0
  have X0 := X0z
  clear X0z
  clear X1
  have X1 := X1z
  clear X1z
  have BN := Lib.hid (B5.out.trans (hb.mono B5.out.size))
  clear B5
  have B6 := BN
  clear BN
  clear hb
  go_wp2_with fail
  refine (toIntS_any _ l0 w_6 (HV0.out.below B6.out) hl0).mono ?_
  rintro e w_7 ⟨rfl, hr, hb⟩
  have Y := Lib.hid (CellRow.of_row hr)
  have X0z := Lib.hid (X0.out.below hb X0.out.1)
  have X1z := Lib.hid (X1.out.below hb X1.out.1)
  clear X0
  have X0 := X0z
  clear X0z
  clear X1
  have X1 := X1z
  clear X1z
  have BN := Lib.hid (B6.out.trans (hb.mono B6.out.size))
  clear B6
  have B7 := BN
  clear BN
  clear hr hb
  go_wp2_with fail
  refine (eqIntS_yes _ _ l0 w_7 (X0.out.flat (Nat.le_refl _)) (Y.out.flat (Nat.le_refl _)) hl0).mono ?_
  rintro e w_8 ⟨rfl, hb⟩
  have X0z := Lib.hid (X0.out.below hb X0.out.1)
  have X1z := Lib.hid (X1.out.below hb X1.out.1)
  have Yz := Lib.hid (Y.out.below hb Y.out.1)
  clear X0
  have X0 := X0z
  clear X0z
  clear X1
  have X1 := X1z
  clear X1z
  clear Y
  have Y := Yz
  clear Yz
  have BN := Lib.hid (B7.out.trans (hb.mono B7.out.size))
  clear B7
  have B8 := BN
  clear BN
  clear hb
  go_wp2_with fail
  clear Y
  refine (toIntS_any _ l1 w_8 (HV1.out.below B8.out) hl1).mono ?_
  rintro e w_9 ⟨rfl, hr, hb⟩
  have Y := Lib.hid (CellRow.of_row hr)
  have X0z := Lib.hid (X0.out.below hb X0.out.1)
  have X1z := Lib.hid (X1.out.below hb X1.out.1)
  clear X0
  have X0 := X0z
  clear X0z
  clear X1
  have X1 := X1z
  clear X1z
  have BN := Lib.hid (B8.out.trans (hb.mono B8.out.size))
  clear B8
  have B9 := BN
  clear BN
  clear hr hb
  go_wp2_with fail
  refine (eqIntS_yes _ _ l1 w_9 (X1.out.flat (Nat.le_refl _)) (Y.out.flat (Nat.le_refl _)) hl1).mono ?_
  rintro e w_10 ⟨rfl, hb⟩
  have X0z := Lib.hid (X0.out.below hb X0.out.1)
  have X1z := Lib.hid (X1.out.below hb X1.out.1)
  have Yz := Lib.hid (Y.out.below hb Y.out.1)
  clear X0
  have X0 := X0z
  clear X0z
  clear X1
  have X1 := X1z
  clear X1z
  clear Y
  have Y := Yz
  clear Yz
  have BN := Lib.hid (B9.out.trans (hb.mono B9.out.size))
  clear B9
  have B10 := BN
  clear BN
  clear hb
  go_wp2_with fail
  clear Y
  go_ret
  exact ⟨rfl, B10.out⟩

set_option maxRecDepth 100000 in
theorem lifted (os : Os) (started : os.Started) (H : Type) (enc : TypeId × Value → H) :
    ReturnsInHanded {} Try.checked os 10 .any (Rows.fnExactKendallDistanceSpec.pre6 enc Try.prog Try.f10 Rows.fnExactKendallDistanceRow.domain false) (Rows.fnExactKendallDistanceSpec.post enc Try.prog Try.f10 false true false false) := by
  refine returnsInHanded_of_change (C := Try.checked) own started (by kernel_rfl) Try.func10
    (ChangeSpec.witness6 (enc := enc) (C := Try.checked) false ⟨#[], #[.slice none 0 0, .slice none 0 0], []⟩ 8 (by kernel_rfl) (by kernel_rfl) (by kernel_rfl) (by kernel_rfl)) ?_
  intro W base args ds gs before hval0 hW hcnd _
  have hval : ∀ (j : Nat) t v, Try.f10.params[j]? = some t → args[j]? = some v → Value.okWide Try.prog W .any base t v := hval0
  have hW' := hW
  obtain ⟨p, q, hA0, hV, rfl, hfz, hnd⟩ := hW
  have hA : DataW.TrodAll enc Try.prog W 0 (fun _ => true) true Try.f10.params.toList args.toList ds p := hA0
  rw [Try.params10] at hA hval
  obtain ⟨v0, vs0, d0, ds0, p0, q0, hargs, rfl, rfl, h0, r0⟩ := trodAll_cons hA
  obtain ⟨v1, vs1, d1, ds1, p1, q1, rfl, rfl, rfl, h1, r1⟩ := trodAll_cons r0
  obtain ⟨rfl, rfl, rfl⟩ := trodAll_nil r1
  obtain rfl : args = #[v0, v1] := by cases args; simp_all
  obtain ⟨rfl, rfl⟩ := trodVars_none hV
  obtain ⟨a0, len0, cap0, rfl⟩ := okWide_slice Try.underlying24 (hval 0 24 v0 rfl rfl)
  have k0 := h0
  have lt0 : ∀ x ∈ p0, x.block < W.heap.size := by obtain ⟨m, hm⟩ := k0; exact DataW.trod_lt m _ _ _ hm
  obtain ⟨l0, w0⟩ : ∃ l : List Int, FlatAt W (.slice a0 len0 cap0) l.length (ints l) ∧ l.length ≤ maxLen := by
    obtain ⟨fuel, hf⟩ := h0
    obtain ⟨l, e, hm, hf⟩ := open_intl hf
    exact ⟨l, hf, by rw [e]; exact hm⟩
  obtain ⟨a1, len1, cap1, rfl⟩ := okWide_slice Try.underlying24 (hval 1 24 v1 rfl rfl)
  have k1 := h1
  have lt1 : ∀ x ∈ p1, x.block < W.heap.size := by obtain ⟨m, hm⟩ := k1; exact DataW.trod_lt m _ _ _ hm
  obtain ⟨l1, w1⟩ : ∃ l : List Int, FlatAt W (.slice a1 len1 cap1) l.length (ints l) ∧ l.length ≤ maxLen := by
    obtain ⟨fuel, hf⟩ := h1
    obtain ⟨l, e, hm, hf⟩ := open_intl hf
    exact ⟨l, hf, by rw [e]; exact hm⟩
  clear hA0 hval0
  refine (walk (.slice a0 len0 cap0) l0 (.slice a1 len1 cap1) l1 W w0 w1).mono fun e W' ⟨he, bel⟩ => ?_
  subst he
  exact ⟨_, rfl, _, _, _, [], _, [], hW', trodAll_mk1 (shut_bool Try.underlying4 _), (trodAll_cons_mk (Below.trod laidOut (by kernel_rfl) (of_decide_eq_true (by kernel_rfl)) k0 bel lt0) (trodAll_cons_mk (Below.trod laidOut (by kernel_rfl) (of_decide_eq_true (by kernel_rfl)) k1 bel lt1) trodAll_mk0)), rfl, bel.frame _, fun h => by cases h⟩

theorem closed : joinedFacts Try.prog 10 Try.f10 Rows.fnExactKendallDistanceSpec Rows.fnExactKendallDistanceRow = true := by
  unfold joinedFacts
  rw [head_enter, head_final, head_make]
  kernel_rfl

theorem over : Rows.fnExactKendallDistanceRow.holds Try.pinned (OpenSpec.ofChange Rows.fnExactKendallDistanceSpec) :=
  OpenClaim.holds_of_wide 10 Try.f10 rfl rfl rfl rfl rfl rfl rfl ⟨rfl, rfl, rfl, rfl, rfl⟩ rfl rfl rfl rfl rfl (by kernel_rfl) Try.func10 closed
    (of_decide_eq_true (by kernel_rfl)) (by unfold Func.isWrapper; first | (rw [if_pos (by decide +kernel)]; kernel_rfl) | (rw [if_neg (by decide +kernel)]; exact ⟨rfl, rfl⟩))
    (fun os started H enc _ => lifted os started H enc)

theorem proved : Rows.FnExactKendallDistanceSaid := over
#print axioms proved
end Go.Proofs.Ytjlldjekjnlcaaa.fnExactKendallDistance
