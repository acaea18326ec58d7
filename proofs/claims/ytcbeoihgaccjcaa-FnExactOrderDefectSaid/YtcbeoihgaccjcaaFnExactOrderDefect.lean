/- FnExactOrderDefect returns true at every input. No condition. -/
import Derived.Test.YtcbeoihgaccjcaaRows
import Derived.WalkKit
import Derived.ProofKit
import Derived.OpenShut
import Derived.ShutString
import Derived.ChangeOld
import Derived.Below
import Derived.SliceStrings
import Derived.Test.YtcbeoihgaccjcaaIntSE
import Derived.Test.YtcbeoihgaccjcaaIntSM
import Derived.Test.YtcbeoihgaccjcaaIntSH
import Derived.Test.YtcbeoihgaccjcaaBoolSS
import Derived.Test.YtcbeoihgaccjcaaBoolSSE
import Derived.Test.YtcbeoihgaccjcaaBoolSSM
import Derived.Test.YtcbeoihgaccjcaaBoolSSZ
import Derived.Test.YtcbeoihgaccjcaaOpenBoolSS
import Derived.Test.YtcbeoihgaccjcaaIOrd
namespace Go.Proofs.Ytcbeoihgaccjcaa.fnExactOrderDefect
open Go.ChangeShapes Go.WideShapes Go.ChangeAt Go.RowKit
open Go.ChangeMaps (open_string shut_string)
set_option linter.unusedVariables false

theorem own : ownKnob Try.prog.godebug = none := by kernel_rfl
theorem laidOut : laidOutB Try.prog = true := by kernel_rfl

theorem offs_total {L : List Bool → List Value} (h : ∀ x, (L x).length = x.length) (M : List (List Bool)) : offs M M.length = total2 (M.map L) := by
  unfold offs total2
  rw [List.take_length, List.map_map]
  congr 1
  apply List.map_congr_left
  intro x _
  exact (h x).symm

set_option maxRecDepth 100000 in
set_option maxHeartbeats 2000000 in
theorem walk (v0 : Value) (m0 : List (List Bool)) (w : World) (w0 : RowsAt w v0 (m0.map bools) ∧ m0.length ≤ maxLen ∧ ∀ (j : Nat) x, m0[j]? = some x → x.length ≤ maxLen) :
    Calls Try.prog 10 #[v0] w fun e w' => e = .returned (.bool true) ∧ Below w.heap.size w w' := by
  obtain ⟨hv, hn, hx⟩ := w0
  have hlen : (m0.map bools).length = m0.length := by simp
  have HV := Lib.hid hv
  have hot := offs_total bools_length m0
  by_cases hl : m0.length + offs m0 m0.length ≤ 1048576
  · have HSZ := Lib.hid (szBoolSS_yes v0 (m0.map bools) 1048576 w hv (by rw [hlen]; omega) (by omega))
    have hl1 : m0.length ≤ 1048576 := by omega
    have HX : Hid (∀ (j : Nat) x, m0[j]? = some x → x.length ≤ 1048576) := Lib.hid (fun j x h => by
      have h1 : (m0.map bools)[j]? = some (bools x) := by rw [List.getElem?_map, h]; rfl
      have := total2_mem h1
      rw [bools_length] at this
      omega)
    have h0 : 0 ≤ (1048576 : Int) - m0.length - total2 (m0.map bools) := by omega
    have hoffs : offs m0 m0.length ≤ 1048576 := by omega
    have HROWS := Lib.hid (fun (W : World) (g lo hi : Nat) (G C : Nat → Nat) (h : Nest W g lo hi (m0.map bools) G C) => (by have := h.rows (c := m0.length) (by rw [hlen]; exact Nat.le_refl _); rw [hlen] at this; exact this : RowsAt W (.slice (some ⟨g, 0, none⟩) m0.length m0.length) (m0.map bools)))
    clear hv hx hn hl hot hlen
    go_enter Try.func10, Try.ntmps10
    go_wp2_with fail
    refine HSZ.out.mono ?_
    rintro e wz ⟨rfl, rfl⟩
    clear HSZ
    go_wp2_with fail
    -- the model at a copy
    refine (toBoolSS_any _ m0 w HV.out hl1 HX.out).mono ?_
    rintro e w1 ⟨rfl, ⟨G1, C1, hn1⟩, hb1⟩
    have HR1 := Lib.hid (HROWS.out _ _ _ _ _ _ hn1)
    have B1 := Lib.hid hb1
    clear hn1 hb1
    go_wp2_with fail
    refine (specOrd_any _ m0 w1 HR1.out hl1 HX.out).mono ?_
    rintro e w2 ⟨gw, cw, W, rfl, hcw, hgw, hrow, hof, hb⟩
    have RW := Lib.hid hrow
    have OW := Lib.hid hof
    have hW : W.length ≤ 1048576 := Nat.le_trans hof.len (by omega)
    have B2 := Lib.hid (B1.out.trans (hb.mono B1.out.size))
    clear hrow hof hb HR1 B1 hgw
    -- the program at another copy
    go_wp2_with fail
    refine (toBoolSS_any _ m0 w2 (HV.out.below B2.out) hl1 HX.out).mono ?_
    rintro e w3 ⟨rfl, ⟨GX, CX, hr⟩, hb⟩
    have hgx : w.heap.size ≤ w2.heap.size := B2.out.size
    have hwx : gw < w2.heap.size := RW.out.1
    have RX := Lib.hid hr
    have RW3 := Lib.hid (RW.out.below hb RW.out.1)
    have B3 := Lib.hid (B2.out.trans (hb.mono B2.out.size))
    clear hr hb RW B2
    obtain ⟨gx, hgxe⟩ : ∃ gx, gx = w2.heap.size := ⟨_, rfl⟩
    rw [← hgxe] at RX hgx hwx ⊢
    clear hgxe
    obtain ⟨hi, hhi⟩ : ∃ hi, hi = w3.heap.size := ⟨_, rfl⟩
    rw [← hhi] at RX
    go_wp2_with fail
    refine (implOrd_any _ m0 w3 (HROWS.out _ _ _ _ _ _ RX.out) hl1).mono ?_
    rintro e w4 ⟨g, cg, G, rfl, hcg, hg, hrow, hof, hb⟩
    obtain rfl : G = W := OrdOf.uniq hof OW.out
    have hxg : hi ≤ g := by rw [hhi]; exact hg
    have RG4 := Lib.hid hrow
    have RW4 := Lib.hid (RW3.out.below hb RW3.out.1)
    have RX4 := Lib.hid (RX.out.below hb RX.out.top)
    have B4 := Lib.hid (B3.out.trans (hb.mono B3.out.size))
    have hwg : w.heap.size ≤ g := Nat.le_trans B3.out.size hg
    clear hrow hof hb RW3 RX B3 hg
    go_wp2_with fail
    refine (eqIntS_yes _ _ G w4 (RG4.out.flat hcg) (RW4.out.flat hcw) hW).mono ?_
    rintro e w5 ⟨rfl, hb⟩
    have RG5 := Lib.hid (RG4.out.below hb RG4.out.1)
    have RW5 := Lib.hid (RW4.out.below hb RW4.out.1)
    have RX5 := Lib.hid (RX4.out.below hb RX4.out.top)
    have B5 := Lib.hid (B4.out.trans (hb.mono B4.out.size))
    clear hb RG4 RW4 RX4 B4
    -- the argument is as it was
    go_wp2_with fail
    refine (toBoolSS_any _ m0 w5 (HV.out.below B5.out) hl1 HX.out).mono ?_
    rintro e w6 ⟨rfl, ⟨GY, CY, hr⟩, hb⟩
    have RY := Lib.hid (HROWS.out _ _ _ _ _ _ hr)
    have RG6 := Lib.hid (RG5.out.below hb RG5.out.1)
    have RW6 := Lib.hid (RW5.out.below hb RW5.out.1)
    have RX6 := Lib.hid (RX5.out.below hb RX5.out.top)
    have B6 := Lib.hid (B5.out.trans (hb.mono B5.out.size))
    clear hr hb RG5 RW5 RX5 B5
    go_wp2_with fail
    refine (eqBoolSS_yes _ _ m0 w6 (HROWS.out _ _ _ _ _ _ RX6.out) RY.out hl1 HX.out).mono ?_
    rintro e w7 ⟨rfl, hb⟩
    have RG7 := Lib.hid (RG6.out.below hb RG6.out.1)
    have RW7 := Lib.hid (RW6.out.below hb RW6.out.1)
    have RX7 := Lib.hid (RX6.out.below hb RX6.out.top)
    have B7 := Lib.hid (B6.out.trans (hb.mono B6.out.size))
    clear hb RG6 RW6 RX6 B6 RY
    -- marks in the argument
    go_wp2_with fail
    refine (markBoolSS_any gx gx hi m0.length m0 GX CX 1 w7 RX7.out hl1 hoffs (by omega)).mono ?_
    rintro e w8 ⟨rfl, _, hb⟩
    have RG8 := Lib.hid (RG7.out.within hb (.inr hxg))
    have RW8 := Lib.hid (RW7.out.within hb (.inl hwx))
    have B8 := Lib.hid (B7.out.trans (hb.below hgx B7.out.size))
    have RX7lt := RX7.out.ghi
    clear hb RG7 RW7 RX7 B7
    go_wp2_with fail
    refine (eqIntS_yes _ _ G w8 (RG8.out.flat hcg) (RW8.out.flat hcw) hW).mono ?_
    rintro e w9 ⟨rfl, hb⟩
    have RG9 := Lib.hid (RG8.out.below hb RG8.out.1)
    have RW9 := Lib.hid (RW8.out.below hb RW8.out.1)
    have B9 := Lib.hid (B8.out.trans (hb.mono B8.out.size))
    clear hb RG8 RW8 B8
    -- marks in the answer
    go_wp2_with fail
    refine (markIntS_any g cg G 1 w9 RG9.out hW (by omega)).mono ?_
    rintro e w10 ⟨rfl, hr, hb⟩
    have RG10 := Lib.hid hr
    have RW10 := Lib.hid (RW9.out.but hb (by have := RX7lt; omega))
    have B10 := Lib.hid (B9.out.trans (hb.below hwg B9.out.size))
    clear hr hb RG9 RW9 B9
    go_wp2_with fail
    refine (heldIntS_any g cg G.length 1 w10 RG10.out hW (by omega)).mono ?_
    rintro e w11 ⟨rfl, hb⟩
    have RG11 := Lib.hid (RG10.out.below hb RG10.out.1)
    have RW11 := Lib.hid (RW10.out.below hb RW10.out.1)
    have B11 := Lib.hid (B10.out.trans (hb.mono B10.out.size))
    clear hb RG10 RW10 B10
    -- another call
    go_wp2_with fail
    refine (toBoolSS_any _ m0 w11 (HV.out.below B11.out) hl1 HX.out).mono ?_
    rintro e w12 ⟨rfl, ⟨GZ, CZ, hr⟩, hb⟩
    have RY := Lib.hid (HROWS.out _ _ _ _ _ _ hr)
    have RG12 := Lib.hid (RG11.out.below hb RG11.out.1)
    have RW12 := Lib.hid (RW11.out.below hb RW11.out.1)
    have B12 := Lib.hid (B11.out.trans (hb.mono B11.out.size))
    clear hr hb RG11 RW11 B11
    go_wp2_with fail
    refine (implOrd_any _ m0 w12 RY.out hl1).mono ?_
    rintro e w13 ⟨gh, ch, H, rfl, hch, hgh, hrow, hof, hb⟩
    obtain rfl : H = G := OrdOf.uniq hof OW.out
    have RH := Lib.hid hrow
    have RG13 := Lib.hid (RG12.out.below hb RG12.out.1)
    have RW13 := Lib.hid (RW12.out.below hb RW12.out.1)
    have B13 := Lib.hid (B12.out.trans (hb.mono B12.out.size))
    clear hrow hof hb RG12 RW12 B12 RY hgh
    go_wp2_with fail
    refine (eqIntS_yes _ _ H w13 (RH.out.flat hch) (RW13.out.flat hcw) hW).mono ?_
    rintro e w14 ⟨rfl, hb⟩
    have RG14 := Lib.hid (RG13.out.below hb RG13.out.1)
    have B14 := Lib.hid (B13.out.trans (hb.mono B13.out.size))
    clear hb RG13 RW13 B13 RH
    go_wp2_with fail
    refine (heldIntS_any g cg H.length 1 w14 RG14.out hW (by omega)).mono ?_
    rintro e w15 ⟨rfl, hb⟩
    have B15 := Lib.hid (B14.out.trans (hb.mono B14.out.size))
    clear hb RG14 B14
    go_wp2_with fail
    go_ret
    exact ⟨rfl, B15.out⟩
  · have HSZ := Lib.hid (szBoolSS_no v0 (m0.map bools) 1048576 w hv (by rw [hlen]; omega) (by omega) (by rw [hlen]; exact hn) (fun j x h => by
      rw [List.getElem?_map] at h
      cases hm : m0[j]? with
      | none => rw [hm] at h; simp at h
      | some y =>
        rw [hm] at h
        obtain rfl := Option.some.inj h
        rw [bools_length]
        exact hx j y hm))
    clear hl HV hv hx hn hot hlen
    go_enter Try.func10, Try.ntmps10
    go_wp2_with fail
    refine HSZ.out.mono ?_
    rintro e w0 ⟨rfl, rfl⟩
    go_wp2_with fail
    go_ret
    exact ⟨rfl, Below.refl _ _⟩

set_option maxRecDepth 100000 in
theorem lifted (os : Os) (started : os.Started) (H : Type) (enc : TypeId × Value → H) :
    ReturnsInHanded {} Try.checked os 10 .any (Rows.fnExactOrderDefectSpec.pre6 enc Try.prog Try.f10 Rows.fnExactOrderDefectRow.domain false) (Rows.fnExactOrderDefectSpec.post enc Try.prog Try.f10 false true false false) := by
  refine returnsInHanded_of_change (C := Try.checked) own started (by kernel_rfl) Try.func10
    (ChangeSpec.witness6 (enc := enc) (C := Try.checked) false ⟨#[], #[.slice none 0 0], []⟩ 8 (by kernel_rfl) (by kernel_rfl) (by kernel_rfl) (by kernel_rfl)) ?_
  intro W base args ds gs before hval0 hW hcnd _
  have hval : ∀ (j : Nat) t v, Try.f10.params[j]? = some t → args[j]? = some v → Value.okWide Try.prog W .any base t v := hval0
  have hW' := hW
  obtain ⟨p, q, hA0, hV, rfl, hfz, hnd⟩ := hW
  have hA : DataW.TrodAll enc Try.prog W 0 (fun _ => true) true Try.f10.params.toList args.toList ds p := hA0
  rw [Try.params10] at hA hval
  obtain ⟨v0, vs0, d0, ds0, p0, q0, hargs, rfl, rfl, h0, r0⟩ := trodAll_cons hA
  obtain ⟨rfl, rfl, rfl⟩ := trodAll_nil r0
  obtain rfl : args = #[v0] := by cases args; simp_all
  obtain ⟨rfl, rfl⟩ := trodVars_none hV
  obtain ⟨a0, len0, cap0, rfl⟩ := okWide_slice Try.underlying33 (hval 0 33 v0 rfl rfl)
  have k0 := h0
  have lt0 : ∀ x ∈ p0, x.block < W.heap.size := by obtain ⟨m, hm⟩ := k0; exact DataW.trod_lt m _ _ _ hm
  obtain ⟨m0, w0⟩ : ∃ M : List (List Bool), RowsAt W (.slice a0 len0 cap0) (M.map bools) ∧ M.length ≤ maxLen ∧ ∀ (j : Nat) x, M[j]? = some x → x.length ≤ maxLen := by
    obtain ⟨fuel, hf⟩ := h0
    exact open_BoolSS hf
  clear hA0 hval0
  refine (walk (.slice a0 len0 cap0) m0 W w0).mono fun e W' ⟨he, bel⟩ => ?_
  subst he
  exact ⟨_, rfl, _, _, _, [], _, [], hW', trodAll_mk1 (shut_bool Try.underlying4 _), (trodAll_cons_mk (Below.trod laidOut (by kernel_rfl) (of_decide_eq_true (by kernel_rfl)) k0 bel lt0) trodAll_mk0), rfl, bel.frame _, fun h => by cases h⟩

theorem over : Rows.fnExactOrderDefectRow.holds Try.pinned (OpenSpec.ofChange Rows.fnExactOrderDefectSpec) :=
  OpenClaim.holds_of_wide 10 Try.f10 rfl rfl rfl rfl rfl rfl rfl ⟨rfl, rfl, rfl, rfl, rfl⟩ rfl rfl rfl rfl rfl (by kernel_rfl) Try.func10 (by kernel_rfl)
    (of_decide_eq_true (by kernel_rfl)) (by unfold Func.isWrapper; first | (rw [if_pos (by decide +kernel)]; kernel_rfl) | (rw [if_neg (by decide +kernel)]; exact ⟨rfl, rfl⟩))
    (fun os started H enc _ => lifted os started H enc)

theorem proved : Rows.FnExactOrderDefectSaid := over
#print axioms proved
end Go.Proofs.Ytcbeoihgaccjcaa.fnExactOrderDefect
