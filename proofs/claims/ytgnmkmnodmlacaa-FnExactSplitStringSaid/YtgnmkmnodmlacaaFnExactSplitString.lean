/- For every string and every separator SplitString answers as its model, twice in one run, and shares nothing with an earlier answer (above 2^20 bytes the law is true by its own test). No further condition. -/
import Derived.Test.YtgnmkmnodmlacaaRows
import Derived.WalkKit
import Derived.ProofKit
import Derived.OpenShut
import Derived.ShutString
import Derived.ChangeOld
import Derived.Below
import Derived.SliceStrings
import Derived.Test.YtgnmkmnodmlacaaSplitL
namespace Go.Proofs.Ytgnmkmnodmlacaa.fnExactSplitString
open Go.ChangeShapes Go.WideShapes Go.ChangeAt Go.RowKit
open Go.ChangeMaps (open_string shut_string)
set_option linter.unusedVariables false

theorem own : ownKnob Try.prog.godebug = none := by kernel_rfl
theorem laidOut : laidOutB Try.prog = true := by kernel_rfl

theorem keepRow {w w' : World} {base B g k cap : Nat} {t : TypeId} {size n : Nat} {xs : List Value} (h : w.ownsRow base t size (.slice (some ⟨g, 0, none⟩) k cap) n xs) (hb : Below B w w') (hB : g < B) : w'.ownsRow base t size (.slice (some ⟨g, 0, none⟩) k cap) n xs :=
  own_below h hb (fun j e => by
    have e' : some g = some j := e
    injection e' with e'
    omega)

theorem walk (a0 : ByteArray) (a1 : ByteArray) (w : World) (w0 : a0.size ≤ maxLen) (w1 : a1.size ≤ maxLen) :
    Calls Try.prog 4 #[.string a0, .string a1] w fun e w' => e = .returned (.bool true) ∧ Below w.heap.size w w' := by
  by_cases h0 : a0.size ≤ 1048576
  · by_cases h1 : a1.size ≤ 1048576
    · obtain ⟨P, r, hP, hsp, him⟩ := split_all a0 a1 h0
      have HSP := Lib.hid hsp
      have HIM := Lib.hid him
      clear hsp him
      go_enter Try.func4, Try.ntmps4
      go_wp2_with fail
      refine (HSP.out _).mono ?_
      rintro e w1 ⟨g0, c0, rfl, hr0, hb1⟩
      have HB1 := Lib.hid hb1
      have hg0 := (hr0.lt g0 rfl).2
      have HR0 := Lib.hid hr0
      clear hr0 hb1
      go_wp2_with fail
      refine (HIM.out _).mono ?_
      rintro e w2 ⟨g1, c1, rfl, hr1, hb2⟩
      have hg1 := hr1.lt g1 rfl
      have HR02 := Lib.hid (keepRow HR0.out hb2 (by omega))
      have HB2 := Lib.hid (HB1.out.trans (hb2.mono HB1.out.size))
      have HR1 := Lib.hid hr1
      have hw2 := hb2.size
      clear hr1 hb2 HR0
      go_wp2_with fail
      refine (eq_yes _ _ P _ (strsAt_own HR1.out) (strsAt_own HR02.out) (by omega)).mono ?_
      rintro e w3 ⟨rfl, hb3⟩
      have HR13 := Lib.hid (keepRow HR1.out hb3 (by omega))
      have HR03 := Lib.hid (keepRow HR02.out hb3 (by omega))
      have HB3 := Lib.hid (HB2.out.trans (hb3.mono HB2.out.size))
      have hw3 := hb3.size
      clear hb3 HR1 HR02
      go_wp2_with fail
      refine (markS_any w1.heap.size g1 c1 P 1 w3 HR13.out (by omega) (by omega) (by omega)).mono ?_
      rintro e w4 ⟨rfl, hr4, hb4⟩
      have HR04 := Lib.hid (keepRow HR03.out hb4 (by omega))
      have HB4 := Lib.hid (HB3.out.trans (hb4.mono HB1.out.size))
      have HR14 := Lib.hid hr4
      have hw4 := hb4.size
      clear hr4 hb4 HR13 HR03
      go_wp2_with fail
      refine (heldS_any w1.heap.size g1 c1 P.length 1 w4 HR14.out (by omega) (by omega)).mono ?_
      rintro e w5 ⟨rfl, hb5⟩
      have HR05 := Lib.hid (keepRow HR04.out hb5 (by omega))
      have HR15 := Lib.hid (keepRow HR14.out hb5 (by omega))
      have HB5 := Lib.hid (HB4.out.trans (hb5.mono HB4.out.size))
      have hw5 := hb5.size
      clear hb5 HR04 HR14
      go_wp2_with fail
      refine (HIM.out _).mono ?_
      rintro e w6 ⟨g2, c2, rfl, hr6, hb6⟩
      have hg2 := hr6.lt g2 rfl
      have HR06 := Lib.hid (keepRow HR05.out hb6 (by omega))
      have HR16 := Lib.hid (keepRow HR15.out hb6 (by omega))
      have HB6 := Lib.hid (HB5.out.trans (hb6.mono HB5.out.size))
      have HR26 := Lib.hid hr6
      have hw6 := hb6.size
      clear hr6 hb6 HR05 HR15
      go_wp2_with fail
      refine (eq_yes _ _ P _ (strsAt_own HR26.out) (strsAt_own HR06.out) (by omega)).mono ?_
      rintro e w7 ⟨rfl, hb7⟩
      have HR17 := Lib.hid (keepRow HR16.out hb7 (by omega))
      have HB7 := Lib.hid (HB6.out.trans (hb7.mono HB6.out.size))
      have hw7 := hb7.size
      clear hb7 HR16 HR06 HR26
      go_wp2_with fail
      refine (heldS_any w1.heap.size g1 c1 P.length 1 w7 HR17.out (by omega) (by omega)).mono ?_
      rintro e w8 ⟨rfl, hb8⟩
      have HB8 := Lib.hid (HB7.out.trans (hb8.mono HB7.out.size))
      clear hb8 HR17
      go_wp2_with fail
      go_ret
      exact ⟨rfl, HB8.out⟩
    · clear w0
      unfold maxLen at w1
      go_enter Try.func4, Try.ntmps4
      go_wp2
      go_ret
      exact ⟨rfl, Below.refl _ _⟩
  · clear w1
    unfold maxLen at w0
    go_enter Try.func4, Try.ntmps4
    go_wp2
    go_ret
    exact ⟨rfl, Below.refl _ _⟩

set_option maxRecDepth 100000 in
theorem lifted (os : Os) (started : os.Started) (H : Type) (enc : TypeId × Value → H) :
    ReturnsInHanded {} Try.checked os 4 .any (Rows.fnExactSplitStringSpec.pre6 enc Try.prog Try.f4 Rows.fnExactSplitStringRow.domain false) (Rows.fnExactSplitStringSpec.post enc Try.prog Try.f4 false true false false) := by
  refine returnsInHanded_of_change (C := Try.checked) own started (by kernel_rfl) Try.func4
    (ChangeSpec.witness6 (enc := enc) (C := Try.checked) false ⟨#[], #[.string ByteArray.empty, .string ByteArray.empty], []⟩ 8 (by kernel_rfl) (by kernel_rfl) (by kernel_rfl) (by kernel_rfl)) ?_
  intro W base args ds gs before hval0 hW hcnd _
  have hval : ∀ (j : Nat) t v, Try.f4.params[j]? = some t → args[j]? = some v → Value.okWide Try.prog W .any base t v := hval0
  have hW' := hW
  obtain ⟨p, q, hA0, hV, rfl, hfz, hnd⟩ := hW
  have hA : DataW.TrodAll enc Try.prog W 0 (fun _ => true) true Try.f4.params.toList args.toList ds p := hA0
  rw [Try.params4] at hA hval
  obtain ⟨v0, vs0, d0, ds0, p0, q0, hargs, rfl, rfl, h0, r0⟩ := trodAll_cons hA
  obtain ⟨v1, vs1, d1, ds1, p1, q1, rfl, rfl, rfl, h1, r1⟩ := trodAll_cons r0
  obtain ⟨rfl, rfl, rfl⟩ := trodAll_nil r1
  obtain rfl : args = #[v0, v1] := by cases args; simp_all
  obtain ⟨rfl, rfl⟩ := trodVars_none hV
  obtain ⟨a0, rfl, rfl, rfl, w0⟩ := open_string Try.underlying9 (hval 0 9 v0 rfl rfl) h0
  obtain ⟨a1, rfl, rfl, rfl, w1⟩ := open_string Try.underlying9 (hval 1 9 v1 rfl rfl) h1
  clear hA0 hval0
  refine (walk a0 a1 W w0 w1).mono fun e W' ⟨he, bel⟩ => ?_
  subst he
  exact ⟨_, rfl, _, _, _, [], _, [], hW', trodAll_mk1 (shut_bool Try.underlying4 _), (trodAll_cons_mk (shut_string Try.underlying9 w0) (trodAll_cons_mk (shut_string Try.underlying9 w1) trodAll_mk0)), rfl, bel.frame _, fun h => by cases h⟩

theorem over : Rows.fnExactSplitStringRow.holds Try.pinned (OpenSpec.ofChange Rows.fnExactSplitStringSpec) :=
  OpenClaim.holds_of_wide 4 Try.f4 rfl rfl rfl rfl rfl rfl rfl ⟨rfl, rfl, rfl, rfl, rfl⟩ rfl rfl rfl rfl rfl (by kernel_rfl) Try.func4 (by kernel_rfl)
    (of_decide_eq_true (by kernel_rfl)) (by unfold Func.isWrapper; first | (rw [if_pos (by decide +kernel)]; kernel_rfl) | (rw [if_neg (by decide +kernel)]; exact ⟨rfl, rfl⟩))
    (fun os started H enc _ => lifted os started H enc)

theorem proved : Rows.FnExactSplitStringSaid := over
#print axioms proved
end Go.Proofs.Ytgnmkmnodmlacaa.fnExactSplitString
