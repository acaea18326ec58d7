/- FnExactOrderClasses returns true at every input. No condition. -/
import Derived.Test.YtjmmhakmidddoaaRows
import Derived.WalkKit
import Derived.ProofKit
import Derived.OpenShut
import Derived.ShutString
import Derived.ChangeOld
import Derived.Below
import Derived.SliceStrings
import Derived.Test.YtjmmhakmidddoaaHead
import Derived.Test.YtjmmhakmidddoaaIntSSE
import Derived.Test.YtjmmhakmidddoaaIntSSM
import Derived.Test.YtjmmhakmidddoaaIntSSH
import Derived.Test.YtjmmhakmidddoaaBoolSS
import Derived.Test.YtjmmhakmidddoaaBoolSSE
import Derived.Test.YtjmmhakmidddoaaBoolSSM
import Derived.Test.YtjmmhakmidddoaaBoolSSZ
import Derived.Test.YtjmmhakmidddoaaOpenBoolSS
import Derived.Test.YtjmmhakmidddoaaClsAll
namespace Go.Proofs.Ytjmmhakmidddoaa.fnExactOrderClasses
open Go.ChangeShapes Go.WideShapes Go.ChangeAt Go.RowKit
open Go.ChangeMaps (open_string shut_string)
set_option linter.unusedVariables false

theorem own : ownKnob Try.prog.godebug = none := by kernel_rfl
theorem laidOut : laidOutB Try.prog = true := by kernel_rfl

theorem offs_total {L : List Bool → List Value} (h : ∀ x, (L x).length = x.length) (M : List (List Bool)) : offs M M.length = total2 (M.map L) := by
  unfold offs total2
  rw [List.take_length, List.map_map]
  congr 1
  apply List.map_congr_left
  intro x _
  exact (h x).symm

set_option maxRecDepth 100000 in
set_option maxHeartbeats 2000000 in
theorem walk (v0 : Value) (m0 : List (List Bool)) (w : World) (w0 : RowsAt w v0 (m0.map bools) ∧ m0.length ≤ maxLen ∧ ∀ (j : Nat) x, m0[j]? = some x → x.length ≤ maxLen) :
    Calls Try.prog 5 #[v0] w fun e w' => e = .returned (.bool true) ∧ Below w.heap.size w w' := by
  obtain ⟨hv, hn, hx⟩ := w0
  have hlen : (m0.map bools).length = m0.length := by simp
  have HV := Lib.hid hv
  have hot := offs_total bools_length m0
  by_cases hl : m0.length + offs m0 m0.length ≤ 1048576
  · have HSZ := Lib.hid (szBoolSS_yes v0 (m0.map bools) 1048576 w hv (by rw [hlen]; omega) (by omega))
    have hl1 : m0.length ≤ 1048576 := by omega
    have HX : Hid (∀ (j : Nat) x, m0[j]? = some x → x.length ≤ 1048576) := Lib.hid (fun j x h => by
      have h1 : (m0.map bools)[j]? = some (bools x) := by rw [List.getElem?_map, h]; rfl
      have := total2_mem h1
      rw [bools_length] at this
      omega)
    have h0 : 0 ≤ (1048576 : Int) - m0.length - total2 (m0.map bools) := by omega
    have hoffs : offs m0 m0.length ≤ 1048576 := by omega
    have HROWS := Lib.hid (fun (W : World) (g lo hi : Nat) (G C : Nat → Nat) (h : Nest W g lo hi (m0.map bools) G C) => (by have := h.rows (c := m0.length) (by rw [hlen]; exact Nat.le_refl _); rw [hlen] at this; exact this : RowsAt W (.slice (some ⟨g, 0, none⟩) m0.length m0.length) (m0.map bools)))
    obtain ⟨R, hR⟩ : ∃ R, R = clsF m0 := ⟨_, rfl⟩
    have HS : Hid (∀ (u : Value) (W : World), RowsAt W u (m0.map bools) → Calls Try.prog 30 #[u] W (RetSS R W)) := Lib.hid (fun u W h => by rw [hR]; exact specCls_any u m0 W h hl1 HX.out)
    have HI : Hid (∀ (u : Value) (W : World), RowsAt W u (m0.map bools) → Calls Try.prog 32 #[u] W (RetSS R W)) := Lib.hid (fun u W h => by rw [hR]; exact implCls_any u m0 W h hl1)
    have HLE : Hid (SmallSS R.1) := Lib.hid (by rw [hR]; exact clsF_small m0)
    clear hR
    obtain ⟨R1, R2⟩ := R
    have hR1 : R1.length ≤ 1048576 := HLE.out.1
    have hRT : offs R1 R1.length ≤ 1048576 := HLE.out.2.2
    have HRX : Hid (∀ (j : Nat) x, R1[j]? = some x → x.length ≤ 1048576) := Lib.hid HLE.out.2.1
    clear HLE
    clear hv hx hn hl hot hlen
    go_enter Try.func5, Try.ntmps5
    go_wp2_with fail
    refine HSZ.out.mono ?_
    rintro e wz ⟨rfl, rfl⟩
    clear HSZ
    go_wp2_with fail
    -- the model at a copy
    refine (toBoolSS_any _ m0 w HV.out hl1 HX.out).mono ?_
    rintro e w1 ⟨rfl, ⟨G1, C1, hn1⟩, hb1⟩
    have HR1 := Lib.hid (HROWS.out _ _ _ _ _ _ hn1)
    have B1 := Lib.hid hb1
    clear hn1 hb1
    go_wp2_with fail
    refine (HS.out _ w1 HR1.out).mono ?_
    rintro e w2 ⟨gw, cgw, Ggw, Cgw, rfl, hcgw, hrow, hb⟩
    simp only at hcgw hrow
    have logw : w.heap.size ≤ w1.heap.size := B1.out.size
    obtain ⟨lgw, hle⟩ : ∃ x, x = w1.heap.size := ⟨_, rfl⟩
    rw [← hle] at hrow logw
    clear hle
    obtain ⟨hgw, hle⟩ : ∃ x, x = w2.heap.size := ⟨_, rfl⟩
    rw [← hle] at hrow
    clear hle
    have RW2 := Lib.hid hrow
    have B2 := Lib.hid (B1.out.trans (hb.mono B1.out.size))
    clear hrow hb HR1 B1 HS
    -- the program at another copy
    go_wp2_with fail
    refine (toBoolSS_any _ m0 w2 (HV.out.below B2.out) hl1 HX.out).mono ?_
    rintro e w3 ⟨rfl, ⟨GX, CX, hr⟩, hb⟩
    have hgx : w.heap.size ≤ w2.heap.size := B2.out.size
    have ltw := RW2.out.top
    have RX := Lib.hid hr
    have RW3 := Lib.hid (RW2.out.below hb RW2.out.top)
    have B3 := Lib.hid (B2.out.trans (hb.mono B2.out.size))
    clear hr hb RW2 B2
    obtain ⟨gx, hgxe⟩ : ∃ gx, gx = w2.heap.size := ⟨_, rfl⟩
    rw [← hgxe] at RX hgx ltw ⊢
    clear hgxe
    obtain ⟨hi, hhi⟩ : ∃ hi, hi = w3.heap.size := ⟨_, rfl⟩
    rw [← hhi] at RX
    have hxi := RX.out.ghi
    go_wp2_with fail
    refine (HI.out _ w3 (HROWS.out _ _ _ _ _ _ RX.out)).mono ?_
    rintro e w4 ⟨g, cg, Gg, Cg, rfl, hcg, hrow, hb⟩
    simp only at hcg hrow
    have log : w.heap.size ≤ w3.heap.size := B3.out.size
    rw [← hhi] at hrow log
    obtain ⟨hg, hle⟩ : ∃ x, x = w4.heap.size := ⟨_, rfl⟩
    rw [← hle] at hrow
    clear hle
    have RG4 := Lib.hid hrow
    have RW4 := Lib.hid (RW3.out.below hb RW3.out.top)
    have RX4 := Lib.hid (RX.out.below hb RX.out.top)
    have B4 := Lib.hid (B3.out.trans (hb.mono B3.out.size))
    clear hrow hb RW3 RX B3 hhi
    go_wp2_with fail
    refine (eqIntSS_yes _ _ R1 w4 (RG4.out.rowsI hcg) (RW4.out.rowsI hcgw) hR1 HRX.out).mono ?_
    rintro e w5 ⟨rfl, hb⟩
    have RG5 := Lib.hid (RG4.out.below hb RG4.out.top)
    have RW5 := Lib.hid (RW4.out.below hb RW4.out.top)
    have RX5 := Lib.hid (RX4.out.below hb RX4.out.top)
    have B5 := Lib.hid (B4.out.trans (hb.mono B4.out.size))
    clear hb RG4 RW4 RX4 B4
    -- the argument is as it was
    go_wp2_with fail
    refine (toBoolSS_any _ m0 w5 (HV.out.below B5.out) hl1 HX.out).mono ?_
    rintro e w6 ⟨rfl, ⟨GY, CY, hr⟩, hb⟩
    have RY := Lib.hid (HROWS.out _ _ _ _ _ _ hr)
    have RG6 := Lib.hid (RG5.out.below hb RG5.out.top)
    have RW6 := Lib.hid (RW5.out.below hb RW5.out.top)
    have RX6 := Lib.hid (RX5.out.below hb RX5.out.top)
    have B6 := Lib.hid (B5.out.trans (hb.mono B5.out.size))
    clear hr hb RG5 RW5 RX5 B5
    go_wp2_with fail
    refine (eqBoolSS_yes _ _ m0 w6 (HROWS.out _ _ _ _ _ _ RX6.out) RY.out hl1 HX.out).mono ?_
    rintro e w7 ⟨rfl, hb⟩
    have RG7 := Lib.hid (RG6.out.below hb RG6.out.top)
    have RW7 := Lib.hid (RW6.out.below hb RW6.out.top)
    have RX7 := Lib.hid (RX6.out.below hb RX6.out.top)
    have B7 := Lib.hid (B6.out.trans (hb.mono B6.out.size))
    clear hb RG6 RW6 RX6 B6 RY
    -- marks in the argument
    go_wp2_with fail
    refine (markBoolSS_any gx gx hi m0.length m0 GX CX 1 w7 RX7.out hl1 hoffs (by omega)).mono ?_
    rintro e w8 ⟨rfl, _, hb⟩
    have RG8 := Lib.hid (RG7.out.within hb (by omega))
    have RW8 := Lib.hid (RW7.out.within hb (by omega))
    have B8 := Lib.hid (B7.out.trans (hb.below hgx B7.out.size))
    clear hb RG7 RW7 RX7 B7
    go_wp2_with fail
    refine (eqIntSS_yes _ _ R1 w8 (RG8.out.rowsI hcg) (RW8.out.rowsI hcgw) hR1 HRX.out).mono ?_
    rintro e w9 ⟨rfl, hb⟩
    have RG9 := Lib.hid (RG8.out.below hb RG8.out.top)
    have RW9 := Lib.hid (RW8.out.below hb RW8.out.top)
    have B9 := Lib.hid (B8.out.trans (hb.mono B8.out.size))
    clear hb RG8 RW8 B8
    -- marks in the answer
    go_wp2_with fail
    refine (markIntSS_any g hi hg cg R1 Gg Cg 1 w9 RG9.out hR1 hRT (by omega)).mono ?_
    rintro e w10 ⟨rfl, hr, hb⟩
    have RG10 := Lib.hid hr
    have RW10 := Lib.hid (RW9.out.within hb (by omega))
    have B10 := Lib.hid (B9.out.trans (hb.below log B9.out.size))
    clear hr hb RG9 RW9 B9
    go_wp2_with fail
    refine (heldIntSS_any g hi hg cg R1 Gg Cg 1 w10 RG10.out hR1 hRT (by omega)).mono ?_
    rintro e w11 ⟨rfl, hb⟩
    have RG11 := Lib.hid (RG10.out.below hb RG10.out.top)
    have RW11 := Lib.hid (RW10.out.below hb RW10.out.top)
    have B11 := Lib.hid (B10.out.trans (hb.mono B10.out.size))
    clear hb RG10 RW10 B10
    -- another call
    go_wp2_with fail
    refine (toBoolSS_any _ m0 w11 (HV.out.below B11.out) hl1 HX.out).mono ?_
    rintro e w12 ⟨rfl, ⟨GZ, CZ, hr⟩, hb⟩
    have RY := Lib.hid (HROWS.out _ _ _ _ _ _ hr)
    have RG12 := Lib.hid (RG11.out.below hb RG11.out.top)
    have RW12 := Lib.hid (RW11.out.below hb RW11.out.top)
    have B12 := Lib.hid (B11.out.trans (hb.mono B11.out.size))
    clear hr hb RG11 RW11 B11
    go_wp2_with fail
    refine (HI.out _ w12 RY.out).mono ?_
    rintro e w13 ⟨gh, cgh, Ggh, Cgh, rfl, hcgh, hrow, hb⟩
    simp only at hcgh hrow
    have RH := Lib.hid hrow
    have RG13 := Lib.hid (RG12.out.below hb RG12.out.top)
    have RW13 := Lib.hid (RW12.out.below hb RW12.out.top)
    have B13 := Lib.hid (B12.out.trans (hb.mono B12.out.size))
    clear hrow hb RG12 RW12 B12 RY
    go_wp2_with fail
    refine (eqIntSS_yes _ _ R1 w13 (RH.out.rowsI hcgh) (RW13.out.rowsI hcgw) hR1 HRX.out).mono ?_
    rintro e w14 ⟨rfl, hb⟩
    have RG14 := Lib.hid (RG13.out.below hb RG13.out.top)
    have B14 := Lib.hid (B13.out.trans (hb.mono B13.out.size))
    clear hb RG13 RW13 B13 RH
    go_wp2_with fail
    refine (heldIntSS_any g hi hg cg R1 Gg Cg 1 w14 RG14.out hR1 hRT (by omega)).mono ?_
    rintro e w15 ⟨rfl, hb⟩
    have B15 := Lib.hid (B14.out.trans (hb.mono B14.out.size))
    clear hb RG14 B14
    go_wp2_with fail
    go_ret
    exact ⟨rfl, B15.out⟩
  · have HSZ := Lib.hid (szBoolSS_no v0 (m0.map bools) 1048576 w hv (by rw [hlen]; omega) (by omega) (by rw [hlen]; exact hn) (fun j x h => by
      rw [List.getElem?_map] at h
      cases hm : m0[j]? with
      | none => rw [hm] at h; simp at h
      | some y =>
        rw [hm] at h
        obtain rfl := Option.some.inj h
        rw [bools_length]
        exact hx j y hm))
    clear hl HV hv hx hn hot hlen
    go_enter Try.func5, Try.ntmps5
    go_wp2_with fail
    refine HSZ.out.mono ?_
    rintro e w0 ⟨rfl, rfl⟩
    go_wp2_with fail
    go_ret
    exact ⟨rfl, Below.refl _ _⟩

set_option maxRecDepth 100000 in
theorem lifted (os : Os) (started : os.Started) (H : Type) (enc : TypeId × Value → H) :
    ReturnsInHanded {} Try.checked os 5 .any (Rows.fnExactOrderClassesSpec.pre6 enc Try.prog Try.f5 Rows.fnExactOrderClassesRow.domain false) (Rows.fnExactOrderClassesSpec.post enc Try.prog Try.f5 false true false false) := by
  refine returnsInHanded_of_change (C := Try.checked) own started (by kernel_rfl) Try.func5
    (ChangeSpec.witness6 (enc := enc) (C := Try.checked) false ⟨#[], #[.slice none 0 0], []⟩ 8 (by kernel_rfl) (by kernel_rfl) (by kernel_rfl) (by kernel_rfl)) ?_
  intro W base args ds gs before hval0 hW hcnd _
  have hval : ∀ (j : Nat) t v, Try.f5.params[j]? = some t → args[j]? = some v → Value.okWide Try.prog W .any base t v := hval0
  have hW' := hW
  obtain ⟨p, q, hA0, hV, rfl, hfz, hnd⟩ := hW
  have hA : DataW.TrodAll enc Try.prog W 0 (fun _ => true) true Try.f5.params.toList args.toList ds p := hA0
  rw [Try.params5] at hA hval
  obtain ⟨v0, vs0, d0, ds0, p0, q0, hargs, rfl, rfl, h0, r0⟩ := trodAll_cons hA
  obtain ⟨rfl, rfl, rfl⟩ := trodAll_nil r0
  obtain rfl : args = #[v0] := by cases args; simp_all
  obtain ⟨rfl, rfl⟩ := trodVars_none hV
  obtain ⟨a0, len0, cap0, rfl⟩ := okWide_slice Try.underlying37 (hval 0 37 v0 rfl rfl)
  have k0 := h0
  have lt0 : ∀ x ∈ p0, x.block < W.heap.size := by obtain ⟨m, hm⟩ := k0; exact DataW.trod_lt m _ _ _ hm
  obtain ⟨m0, w0⟩ : ∃ M : List (List Bool), RowsAt W (.slice a0 len0 cap0) (M.map bools) ∧ M.length ≤ maxLen ∧ ∀ (j : Nat) x, M[j]? = some x → x.length ≤ maxLen := by
    obtain ⟨fuel, hf⟩ := h0
    exact open_BoolSS hf
  clear hA0 hval0
  refine (walk (.slice a0 len0 cap0) m0 W w0).mono fun e W' ⟨he, bel⟩ => ?_
  subst he
  exact ⟨_, rfl, _, _, _, [], _, [], hW', trodAll_mk1 (shut_bool Try.underlying4 _), (trodAll_cons_mk (Below.trod laidOut (by kernel_rfl) (of_decide_eq_true (by kernel_rfl)) k0 bel lt0) trodAll_mk0), rfl, bel.frame _, fun h => by cases h⟩

theorem closed : joinedFacts Try.prog 5 Try.f5 Rows.fnExactOrderClassesSpec Rows.fnExactOrderClassesRow = true := by
  unfold joinedFacts
  rw [head_enter, head_final, head_make]
  kernel_rfl

theorem over : Rows.fnExactOrderClassesRow.holds Try.pinned (OpenSpec.ofChange Rows.fnExactOrderClassesSpec) :=
  OpenClaim.holds_of_wide 5 Try.f5 rfl rfl rfl rfl rfl rfl rfl ⟨rfl, rfl, rfl, rfl, rfl⟩ rfl rfl rfl rfl rfl (by kernel_rfl) Try.func5 closed
    (of_decide_eq_true (by kernel_rfl)) (by unfold Func.isWrapper; first | (rw [if_pos (by decide +kernel)]; kernel_rfl) | (rw [if_neg (by decide +kernel)]; exact ⟨rfl, rfl⟩))
    (fun os started H enc _ => lifted os started H enc)

theorem proved : Rows.FnExactOrderClassesSaid := over
#print axioms proved
end Go.Proofs.Ytjmmhakmidddoaa.fnExactOrderClasses
