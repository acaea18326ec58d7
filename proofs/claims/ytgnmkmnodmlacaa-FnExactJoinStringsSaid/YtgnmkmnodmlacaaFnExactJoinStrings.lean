/- For every list of strings and every separator JoinStrings answers as its model and changes no argument (above 2^20 values and bytes the law is true by its own test). No further condition. -/
import Derived.Test.YtgnmkmnodmlacaaRows
import Derived.WalkKit
import Derived.ProofKit
import Derived.OpenShut
import Derived.ShutString
import Derived.ChangeOld
import Derived.Below
import Derived.SliceStrings
import Derived.Test.YtgnmkmnodmlacaaJoin
namespace Go.Proofs.Ytgnmkmnodmlacaa.fnExactJoinStrings
open Go.ChangeShapes Go.WideShapes Go.ChangeAt Go.RowKit
open Go.ChangeMaps (open_string shut_string)
set_option linter.unusedVariables false

theorem own : ownKnob Try.prog.godebug = none := by kernel_rfl
theorem laidOut : laidOutB Try.prog = true := by kernel_rfl

theorem walk (v0 : Value) (x0 : List ByteArray) (a1 : ByteArray) (w : World) (w0 : StrsAt w v0 x0 ∧ x0.length ≤ maxLen ∧ ∀ (j : Nat) x, x0[j]? = some x → x.size ≤ maxLen) (w1 : a1.size ≤ maxLen) :
    Calls Try.prog 5 #[v0, .string a1] w fun e w' => e = .returned (.bool true) ∧ Below w.heap.size w w' := by
  obtain ⟨hv, hn, hx⟩ := w0
  by_cases hs : a1.size ≤ 1048576
  · by_cases hl : x0.length + bytesOf x0 ≤ 1048576
    · have HV := Lib.hid hv
      have HSZ := Lib.hid (sz_yes v0 x0 1048576 w hv hl (by omega))
      have hn2 : x0.length ≤ 1048576 := by omega
      obtain ⟨s, r, hsp, him⟩ := specJoin_all x0 a1 (fun j x h => by have := bytesOf_mem h; omega) hn2
      have HSP := Lib.hid hsp
      have HIM := Lib.hid him
      have hlb : 0 ≤ (1048576 : Int) - x0.length - bytesOf x0 := by omega
      clear hv hx hl hn hsp him
      go_enter Try.func5, Try.ntmps5
      go_wp2_with (go_at_call 21; refine HSZ.out.mono ?_; rintro e w' ⟨rfl, rfl⟩)
      refine (to_any v0 x0 w HV.out hn2).mono ?_
      rintro e w1 ⟨rfl, hr1, hb1⟩
      have HB1 := Lib.hid hb1
      have HR1 := Lib.hid hr1
      clear hb1 hr1
      go_wp2_with fail
      refine (HSP.out _ _ (StrsAt.of_row (Nat.le_refl _) HR1.out)).mono ?_
      rintro e w2 ⟨rfl, hb2⟩
      have HB2 := Lib.hid (HB1.out.trans (hb2.mono HB1.out.size))
      clear hb2
      go_wp2_with fail
      refine (to_any v0 x0 _ (HV.out.below HB2.out) hn2).mono ?_
      rintro e w3 ⟨rfl, hr3, hb3⟩
      have HB3 := Lib.hid (HB2.out.trans (hb3.mono HB2.out.size))
      have HR3 := Lib.hid hr3
      clear hb3 hr3
      go_wp2_with fail
      refine (HIM.out _ _ (StrsAt.of_row (Nat.le_refl _) HR3.out)).mono ?_
      rintro e w4 ⟨rfl, hb4⟩
      have HR4 := Lib.hid (HR3.out.below hb4 HR3.out.lt)
      have HB4 := Lib.hid (HB3.out.trans (hb4.mono HB3.out.size))
      clear hb4
      go_wp2_with fail
      refine (to_any v0 x0 _ (HV.out.below HB4.out) hn2).mono ?_
      rintro e w5 ⟨rfl, hr5, hb5⟩
      have HR5 := Lib.hid (HR4.out.below hb5 HR4.out.lt)
      have HB5 := Lib.hid (HB4.out.trans (hb5.mono HB4.out.size))
      have HR6 := Lib.hid hr5
      clear hb5 hr5
      go_wp2_with fail
      refine (eq_yes _ _ x0 _ (StrsAt.of_row (Nat.le_refl _) HR5.out) (StrsAt.of_row (Nat.le_refl _) HR6.out) hn2).mono ?_
      rintro e w6 ⟨rfl, hb6⟩
      have HB6 := Lib.hid (HB5.out.trans (hb6.mono HB5.out.size))
      clear hb6
      go_wp2
      go_ret
      exact ⟨rfl, HB6.out⟩
    · have HSZ := Lib.hid (sz_no v0 x0 1048576 w hv (by omega) (by omega) hn hx)
      clear hv hx hl hn
      go_enter Try.func5, Try.ntmps5
      go_wp2_with (go_at_call 21; refine HSZ.out.mono ?_; rintro e w' ⟨rfl, rfl⟩)
      go_ret
      exact ⟨rfl, Below.refl _ _⟩
  · unfold maxLen at w1
    clear hv hx
    go_enter Try.func5, Try.ntmps5
    go_wp2
    go_ret
    exact ⟨rfl, Below.refl _ _⟩

set_option maxRecDepth 100000 in
theorem lifted (os : Os) (started : os.Started) (H : Type) (enc : TypeId × Value → H) :
    ReturnsInHanded {} Try.checked os 5 .any (Rows.fnExactJoinStringsSpec.pre6 enc Try.prog Try.f5 Rows.fnExactJoinStringsRow.domain false) (Rows.fnExactJoinStringsSpec.post enc Try.prog Try.f5 false true false false) := by
  refine returnsInHanded_of_change (C := Try.checked) own started (by kernel_rfl) Try.func5
    (ChangeSpec.witness6 (enc := enc) (C := Try.checked) false ⟨#[], #[.slice none 0 0, .string ByteArray.empty], []⟩ 8 (by kernel_rfl) (by kernel_rfl) (by kernel_rfl) (by kernel_rfl)) ?_
  intro W base args ds gs before hval0 hW hcnd _
  have hval : ∀ (j : Nat) t v, Try.f5.params[j]? = some t → args[j]? = some v → Value.okWide Try.prog W .any base t v := hval0
  have hW' := hW
  obtain ⟨p, q, hA0, hV, rfl, hfz, hnd⟩ := hW
  have hA : DataW.TrodAll enc Try.prog W 0 (fun _ => true) true Try.f5.params.toList args.toList ds p := hA0
  rw [Try.params5] at hA hval
  obtain ⟨v0, vs0, d0, ds0, p0, q0, hargs, rfl, rfl, h0, r0⟩ := trodAll_cons hA
  obtain ⟨v1, vs1, d1, ds1, p1, q1, rfl, rfl, rfl, h1, r1⟩ := trodAll_cons r0
  obtain ⟨rfl, rfl, rfl⟩ := trodAll_nil r1
  obtain rfl : args = #[v0, v1] := by cases args; simp_all
  obtain ⟨rfl, rfl⟩ := trodVars_none hV
  obtain ⟨a0, len0, cap0, rfl⟩ := okWide_slice Try.underlying26 (hval 0 26 v0 rfl rfl)
  have k0 := h0
  have lt0 : ∀ x ∈ p0, x.block < W.heap.size := by obtain ⟨m, hm⟩ := k0; exact DataW.trod_lt m _ _ _ hm
  obtain ⟨x0, w0⟩ : ∃ xs : List ByteArray, StrsAt W (.slice a0 len0 cap0) xs ∧ xs.length ≤ maxLen ∧ ∀ (j : Nat) x, xs[j]? = some x → x.size ≤ maxLen := by
    obtain ⟨fuel, hf⟩ := h0
    rcases open_strings Try.underlying26 Try.underlying9 (by kernel_rfl) hf with ⟨hcs, _⟩ | ⟨x, l, c, ss, hcs, hbb, hl, hm, hz, _, hcell, hws⟩
    · simp [Value.cells] at hcs
      obtain ⟨rfl, rfl, rfl⟩ := hcs
      exact ⟨[], ⟨none, 0, rfl, Nat.le_refl _, fun j x h => by simp at h⟩, by simp, fun j x h => by simp at h⟩
    · simp [Value.cells] at hcs
      obtain ⟨rfl, rfl, rfl⟩ := hcs
      have hlen : (ss.take len0).length = len0 := by rw [List.length_take, hz]; simp; omega
      refine ⟨ss.take len0, ⟨some x, _, by rw [hlen], by rw [hlen]; exact hl, fun j y hy => ?_⟩, by rw [hlen]; omega, fun j y hy => ?_⟩
      · have hj : j < len0 := by have := (List.getElem?_eq_some_iff.1 hy).1; omega
        have hy2 : ss[j]? = some y := by rw [List.getElem?_take_of_lt hj] at hy; exact hy
        have hc := hcell j (List.getElem?_eq_some_iff.1 hy2).1
        have hd : ss.getD j ByteArray.empty = y := by simp [List.getD, hy2]
        rw [hd] at hc
        obtain ⟨bb, oo, spot⟩ := x
        have hc0 := hcell 0 (Nat.lt_of_le_of_lt (Nat.zero_le _) (List.getElem?_eq_some_iff.1 hy2).1)
        have hspot : spot = none := by simpa [Addr.add] using World.cell?_spot hc0
        subst hspot
        have hadd : (⟨bb, oo, none⟩ : Addr).add j = ⟨bb, oo + j, none⟩ := by
          unfold Addr.add; split
          · rename_i h; subst h; rfl
          · rfl
        rw [hadd] at hc
        exact ⟨bb, oo, rfl, World.block_lt_of_cell? W _ hc, hc⟩
      · have hj : j < len0 := by have := (List.getElem?_eq_some_iff.1 hy).1; omega
        have hy2 : ss[j]? = some y := by rw [List.getElem?_take_of_lt hj] at hy; exact hy
        exact hws y (List.mem_of_getElem? hy2)
  obtain ⟨a1, rfl, rfl, rfl, w1⟩ := open_string Try.underlying9 (hval 1 9 v1 rfl rfl) h1
  clear hA0 hval0
  refine (walk (.slice a0 len0 cap0) x0 a1 W w0 w1).mono fun e W' ⟨he, bel⟩ => ?_
  subst he
  exact ⟨_, rfl, _, _, _, [], _, [], hW', trodAll_mk1 (shut_bool Try.underlying4 _), (trodAll_cons_mk (Below.trod laidOut (by kernel_rfl) (of_decide_eq_true (by kernel_rfl)) k0 bel lt0) (trodAll_cons_mk (shut_string Try.underlying9 w1) trodAll_mk0)), rfl, bel.frame _, fun h => by cases h⟩

theorem over : Rows.fnExactJoinStringsRow.holds Try.pinned (OpenSpec.ofChange Rows.fnExactJoinStringsSpec) :=
  OpenClaim.holds_of_wide 5 Try.f5 rfl rfl rfl rfl rfl rfl rfl ⟨rfl, rfl, rfl, rfl, rfl⟩ rfl rfl rfl rfl rfl (by kernel_rfl) Try.func5 (by kernel_rfl)
    (of_decide_eq_true (by kernel_rfl)) (by unfold Func.isWrapper; first | (rw [if_pos (by decide +kernel)]; kernel_rfl) | (rw [if_neg (by decide +kernel)]; exact ⟨rfl, rfl⟩))
    (fun os started H enc _ => lifted os started H enc)

theorem proved : Rows.FnExactJoinStringsSaid := over
#print axioms proved
end Go.Proofs.Ytgnmkmnodmlacaa.fnExactJoinStrings
