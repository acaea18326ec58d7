/- FnExactIsValidMergeTree returns true at every input. No condition. -/
import Derived.Test.YthmcjmjkmmbepaaRows
import Derived.WalkKit
import Derived.ProofKit
import Derived.OpenShut
import Derived.ShutString
import Derived.ChangeOld
import Derived.Below
import Derived.SliceStrings
import Derived.Test.YthmcjmjkmmbepaaHead
import Derived.Test.YthmcjmjkmmbepaaOpenMt
import Derived.Test.YthmcjmjkmmbepaaMtS
import Derived.Test.YthmcjmjkmmbepaaITr
namespace Go.Proofs.Ythmcjmjkmmbepaa.fnExactIsValidMergeTree
open Go.ChangeShapes Go.WideShapes Go.ChangeAt Go.RowKit
open Go.ChangeMaps (open_string shut_string)
set_option linter.unusedVariables false

theorem own : ownKnob Try.prog.godebug = none := by kernel_rfl
theorem laidOut : laidOutB Try.prog = true := by kernel_rfl

set_option maxRecDepth 100000 in
set_option maxHeartbeats 4000000 in
theorem walk (v0 : Value) (T : List (List Int)) (w : World) (w0 : RowsAt w v0 (T.map ints) ∧ T.length ≤ maxLen ∧ ∀ (j : Nat) x, T[j]? = some x → x.length ≤ maxLen) :
    Calls Try.prog 5 #[.agg #[v0]] w fun e w' => e = .returned (.bool true) ∧ Below w.heap.size w w' := by
  have HV := Lib.hid w0.1
  have hn := w0.2.1
  have hx := w0.2.2
  clear w0
  obtain ⟨wb, hWb, hxb, hzb, hbb⟩ := box1 w 47 v0
  have hml : (T.map ints).length = T.length := by simp
  by_cases hl0 : T.length + total2 (T.map ints) ≤ 1048576
  case neg =>
    have HSZ := Lib.hid (szMergeTree_any v0 T (-1) (.inr rfl) wb (fun W hW => szIntSS_no v0 (T.map ints) 1048576 W ((HV.out.below hbb).below hW) (by rw [hml]; omega) (by decide) (by rw [hml]; exact hn) (fun j x hj => by
      rw [List.getElem?_map] at hj
      obtain ⟨y, hy, rfl⟩ := Option.map_eq_some_iff.1 hj
      rw [ints_length]; exact hx j y hy)))
    have HBB := Lib.hid hbb
    clear hbb hxb
    go_enter Try.func5, Try.ntmps5
    go_wp2_with fail
    rw [← hWb]
    refine HSZ.out.mono ?_
    rintro e w_1 ⟨rfl, hb⟩
    have HB := Lib.hid (HBB.out.trans (hb.mono HBB.out.size))
    clear hb
    go_wp2_with fail
    go_ret
    exact ⟨rfl, HB.out⟩
  have hT : T.length ≤ 1048576 := by omega
  have HXX : Hid (∀ (j : Nat) x, T[j]? = some x → x.length ≤ 1048576) := Lib.hid (fun j x hj => by
    have h1 : (T.map ints)[j]? = some (ints x) := by rw [List.getElem?_map, hj]; rfl
    have := total2_mem h1
    rw [ints_length] at this; omega)
  obtain ⟨r, hr⟩ : ∃ r : Int, r = ((1048576 : Nat) : Int) - ((T.map ints).length : Int) - (total2 (T.map ints) : Int) := ⟨_, rfl⟩
  have hr0 : 0 ≤ r := by rw [hr, hml]; omega
  have HSZ := Lib.hid (szMergeTree_any v0 T r (.inl hr0) wb (fun W hW => by rw [hr]; exact szIntSS_yes v0 (T.map ints) 1048576 W ((HV.out.below hbb).below hW) (by rw [hml]; omega) (by decide)))
  have hrd : decide (r < 0) = false := decide_eq_false (by omega)
  have hrn : ¬ r < 0 := by omega
  obtain ⟨R, hR⟩ : ∃ R, R = okT T := ⟨_, rfl⟩
  have HS : Hid (∀ (g lo hi : Nat) (G C : Nat → Nat) (W : World), Nest W g lo hi (T.map ints) G C → Calls Try.prog 24 #[.agg #[.slice (some ⟨g, 0, none⟩) T.length T.length]] W fun e w' => e = .returned (.bool R) ∧ Below W.heap.size W w') := Lib.hid (fun g lo hi G C W h => by rw [hR]; exact specVt_any g lo hi T.length T G C W h (Nat.le_refl _) hT HXX.out)
  have HI : Hid (∀ (g lo hi : Nat) (G C : Nat → Nat) (W : World), Nest W g lo hi (T.map ints) G C → Calls Try.prog 26 #[.agg #[.slice (some ⟨g, 0, none⟩) T.length T.length]] W fun e w' => e = .returned (.bool R) ∧ Below W.heap.size W w') := Lib.hid (fun g lo hi G C W h => by rw [hR]; exact implVt_any g lo hi T.length T G C W h (Nat.le_refl _) hT HXX.out)
  have B0 : Hid (Below w.heap.size w wb) := Lib.hid hbb
  have XB := Lib.hid hxb
  have hcXB := Boxed.cell XB.out
  clear hbb hxb hr hR hl0 hml hn hx
  go_enter Try.func5, Try.ntmps5
  go_wp2_with fail
  rw [← hWb]
  refine HSZ.out.mono ?_
  rintro e w_1 ⟨rfl, hb⟩
  have XB1 := Lib.hid (boxed_below XB.out hb (Boxed.lt XB.out))
  have B1 := Lib.hid (B0.out.trans (hb.mono B0.out.size))
  clear HSZ XB hcXB B0 hb hWb hzb
  have hcXB := Boxed.cell XB1.out
  go_wp2_with fail
  refine (toMergeTree_any _ T w_1 (HV.out.below B1.out) hT HXX.out).mono ?_
  rintro e w_2 ⟨gs, ls, hs, Gs, Cs, hlo, rfl, hr, hb⟩
  have S0 := Lib.hid hr
  have XB2 := Lib.hid (boxed_below XB1.out hb (Boxed.lt XB1.out))
  have B2 := Lib.hid (B1.out.trans (hb.mono B1.out.size))
  clear hlo hr hb XB1 B1 hcXB
  have hcXB := Boxed.cell XB2.out
  go_wp2_with fail
  refine (HS.out _ _ _ _ _ w_2 S0.out).mono ?_
  rintro e w_3 ⟨rfl, hb⟩
  have XB3 := Lib.hid (boxed_below XB2.out hb (Boxed.lt XB2.out))
  have B3 := Lib.hid (B2.out.trans (hb.mono B2.out.size))
  clear S0 HS XB2 B2 hcXB hb
  have hcXB := Boxed.cell XB3.out
  go_wp2_with fail
  refine (toMergeTree_any _ T w_3 (HV.out.below B3.out) hT HXX.out).mono ?_
  rintro e w_4 ⟨gx0, lx, hx0, Gx, Cx, hlo, rfl, hr, hb⟩
  have XB4 := Lib.hid (boxed_below XB3.out hb (Boxed.lt XB3.out))
  have B4 := Lib.hid (B3.out.trans (hb.mono B3.out.size))
  obtain ⟨w_5, hWN, hxN, hzN, hb5⟩ := box1 w_4 50 (.slice (some ⟨gx0, 0, none⟩) T.length T.length)
  have X0 := Lib.hid (hr.below hb5 hr.top)
  have XB5 := Lib.hid (boxed_below XB4.out hb5 (Boxed.lt XB4.out))
  have B5 := Lib.hid (B4.out.trans (hb5.mono B4.out.size))
  have XX := Lib.hid hxN
  have hcXX := Boxed.cell XX.out
  have hWrXX := hWN.symm
  have ltXX : w.heap.size ≠ w_4.heap.size := by have := Boxed.lt XB4.out; omega
  clear hlo hr hb hb5 hWN hxN hzN XB3 XB4 B3 B4 hcXB
  have hcXB := Boxed.cell XB5.out
  go_wp2_with fail
  clear hWrXX
  refine (HI.out _ _ _ _ _ w_5 X0.out).mono ?_
  rintro e w_6 ⟨rfl, hb⟩
  have X6 := Lib.hid (X0.out.below hb X0.out.top)
  have XX6 := Lib.hid (boxed_below XX.out hb (Boxed.lt XX.out))
  have XB6 := Lib.hid (boxed_below XB5.out hb (Boxed.lt XB5.out))
  have B6 := Lib.hid (B5.out.trans (hb.mono B5.out.size))
  clear X0 XX XB5 B5 hcXX hcXB HI hb
  have hcXB := Boxed.cell XB6.out
  have hcXX := Boxed.cell XX6.out
  go_upto_region 10 with fail
  have HCMP : Hid (∀ W2, Below w_6.heap.size w_6 W2 → Calls Try.prog 25 #[.agg #[v0]] W2 fun e w' => ∃ gy, e = .returned (.agg #[.slice (some ⟨gy, 0, none⟩) T.length T.length]) ∧ w'.cell? ⟨w_4.heap.size, 0, none⟩ = some (.slice (some ⟨gx0, 0, none⟩) T.length T.length) ∧ ∀ W3, Below w'.heap.size w' W3 → Calls Try.prog 27 #[.agg #[.slice (some ⟨gx0, 0, none⟩) T.length T.length], .agg #[.slice (some ⟨gy, 0, none⟩) T.length T.length]] W3 fun e w4 => e = .returned (.bool true) ∧ Below w_6.heap.size w_6 w4) := Lib.hid (fun W2 h2 => (toMergeTree_any _ T W2 (HV.out.below (B6.out.trans (h2.mono B6.out.size))) hT HXX.out).mono (by
      rintro e w' ⟨gy, ly, hy, Gy, Cy, _, rfl, hry, hby⟩
      refine ⟨gy, rfl, Boxed.cell (boxed_below (boxed_below XX6.out h2 (Boxed.lt XX6.out)) hby (Boxed.lt (boxed_below XX6.out h2 (Boxed.lt XX6.out)))), fun W3 h3 => ?_⟩
      have hX2 := X6.out.below h2 X6.out.top
      have hX3 := hX2.below hby hX2.top
      have hX4 := hX3.below h3 hX3.top
      have hY4 := hry.below h3 hry.top
      refine (eqMergeTree_yes _ _ T W3 (by have := hX4.rows (c := T.length) (by simp); simpa using this) (by have := hY4.rows (c := T.length) (by simp); simpa using this) hT HXX.out).mono ?_
      rintro e w4 ⟨rfl, h4⟩
      exact ⟨rfl, h2.trans ((hby.mono h2.size).trans ((h3.mono (Nat.le_trans h2.size hby.size)).trans (h4.mono (Nat.le_trans h2.size (Nat.le_trans hby.size h3.size)))))⟩))
  go_cut [26] from 22 to 26 (fun u wx => u = .bool false ∧ Below w_6.heap.size w_6 wx)
  case first =>
    clear X6
    go_region_with (first | (go_at_call 25; refine (HCMP.out _ (by first | exact Below.refl _ _ | exact ⟨rfl, rfl, rfl, Nat.le_refl _, fun _ _ => rfl⟩)).mono ?_; rintro e wa ⟨gy, rfl, hcy, HE⟩) | (go_at_call 27; refine (HE _ (by first | exact Below.refl _ _ | exact ⟨rfl, rfl, rfl, Nat.le_refl _, fun _ _ => rfl⟩)).mono ?_; rintro e wb4 ⟨rfl, hb4⟩))
    all_goals (
      go_wp2_with fail
      go_meet
      first | exact ⟨rfl, hb4⟩ | exact ⟨rfl, hb4.trans ⟨rfl, rfl, rfl, Nat.le_refl _, fun _ _ => rfl⟩⟩)
  case rest =>
    obtain ⟨rfl, hb⟩ := hcut
    have B7 := Lib.hid (B6.out.trans (hb.mono B6.out.size))
    clear HCMP hb B6 X6 XX6 XB6 hcXX hcXB
    go_wp2_with fail
    go_ret
    exact ⟨rfl, B7.out⟩

set_option maxRecDepth 100000 in
theorem lifted (os : Os) (started : os.Started) (H : Type) (enc : TypeId × Value → H) :
    ReturnsInHanded {} Try.checked os 5 .any (Rows.fnExactIsValidMergeTreeSpec.pre6 enc Try.prog Try.f5 Rows.fnExactIsValidMergeTreeRow.domain false) (Rows.fnExactIsValidMergeTreeSpec.post enc Try.prog Try.f5 false true false false) := by
  refine returnsInHanded_of_change (C := Try.checked) own started (by kernel_rfl) Try.func5
    (ChangeSpec.witness6 (enc := enc) (C := Try.checked) false ⟨#[], #[.agg #[.slice none 0 0]], []⟩ 8 (by kernel_rfl) (by kernel_rfl) (by kernel_rfl) (by kernel_rfl)) ?_
  intro W base args ds gs before hval0 hW hcnd _
  have hval : ∀ (j : Nat) t v, Try.f5.params[j]? = some t → args[j]? = some v → Value.okWide Try.prog W .any base t v := hval0
  have hW' := hW
  obtain ⟨p, q, hA0, hV, rfl, hfz, hnd⟩ := hW
  have hA : DataW.TrodAll enc Try.prog W 0 (fun _ => true) true Try.f5.params.toList args.toList ds p := hA0
  rw [Try.params5] at hA hval
  obtain ⟨v0, vs0, d0, ds0, p0, q0, hargs, rfl, rfl, h0, r0⟩ := trodAll_cons hA
  obtain ⟨rfl, rfl, rfl⟩ := trodAll_nil r0
  obtain rfl : args = #[v0] := by cases args; simp_all
  obtain ⟨rfl, rfl⟩ := trodVars_none hV
  obtain ⟨u0, m0, rfl, w0⟩ : ∃ (u : Value) (M : List (List Int)), v0 = .agg #[u] ∧ RowsAt W u (M.map ints) ∧ M.length ≤ maxLen ∧ ∀ (j : Nat) x, M[j]? = some x → x.length ≤ maxLen := by
    obtain ⟨fuel, hf⟩ := h0
    exact open_mt (hval 0 47 v0 rfl rfl) hf
  have k0 := h0
  have lt0 : ∀ x ∈ p0, x.block < W.heap.size := by obtain ⟨m, hm⟩ := k0; exact DataW.trod_lt m _ _ _ hm
  clear hA0 hval0
  refine (walk u0 m0 W w0).mono fun e W' ⟨he, bel⟩ => ?_
  subst he
  exact ⟨_, rfl, _, _, _, [], _, [], hW', trodAll_mk1 (shut_bool Try.underlying4 _), (trodAll_cons_mk (Below.trod laidOut (by kernel_rfl) (of_decide_eq_true (by kernel_rfl)) k0 bel lt0) trodAll_mk0), rfl, bel.frame _, fun h => by cases h⟩

theorem closed : joinedFacts Try.prog 5 Try.f5 Rows.fnExactIsValidMergeTreeSpec Rows.fnExactIsValidMergeTreeRow = true := by
  unfold joinedFacts
  rw [head_enter, head_final, head_make]
  kernel_rfl

theorem over : Rows.fnExactIsValidMergeTreeRow.holds Try.pinned (OpenSpec.ofChange Rows.fnExactIsValidMergeTreeSpec) :=
  OpenClaim.holds_of_wide 5 Try.f5 rfl rfl rfl rfl rfl rfl rfl ⟨rfl, rfl, rfl, rfl, rfl⟩ rfl rfl rfl rfl rfl (by kernel_rfl) Try.func5 closed
    (of_decide_eq_true (by kernel_rfl)) (by unfold Func.isWrapper; first | (rw [if_pos (by decide +kernel)]; kernel_rfl) | (rw [if_neg (by decide +kernel)]; exact ⟨rfl, rfl⟩))
    (fun os started H enc _ => lifted os started H enc)

theorem proved : Rows.FnExactIsValidMergeTreeSaid := over
#print axioms proved
end Go.Proofs.Ythmcjmjkmmbepaa.fnExactIsValidMergeTree
