/- FnExactFenwickSelect returns true at every input. No condition. -/
import Derived.Test.YtgfdpjmhdijdiaaRows
import Derived.WalkKit
import Derived.ProofKit
import Derived.OpenShut
import Derived.ShutString
import Derived.ChangeOld
import Derived.Below
import Derived.SliceStrings
import Derived.Test.YtgfdpjmhdijdiaaHead
import Derived.Test.YtgfdpjmhdijdiaaFen
import Derived.Test.YtgfdpjmhdijdiaaOpenFen
import Derived.Test.YtgfdpjmhdijdiaaIFs
import Derived.Test.YtgfdpjmhdijdiaaSFs
namespace Go.Proofs.Ytgfdpjmhdijdiaa.fnExactFenwickSelect
open Go.ChangeShapes Go.WideShapes Go.ChangeAt Go.RowKit
open Go.ChangeMaps (open_string shut_string)
set_option linter.unusedVariables false

theorem own : ownKnob Try.prog.godebug = none := by kernel_rfl
theorem laidOut : laidOutB Try.prog = true := by kernel_rfl

set_option maxRecDepth 100000 in
set_option maxHeartbeats 4000000 in
theorem walk (v0 : Value) (l0 : List Int) (a1 : Int) (w : World) (w0 : FlatAt w v0 l0.length (ints l0) ∧ l0.length ≤ maxLen ∧ Fw.IsW l0) (w1 : (Lit.int .i64 a1).wf = true) :
    Calls Try.prog 15 #[.agg #[v0], .int .i64 a1] w fun e w' => e = .returned (.bool true) ∧ Below w.heap.size w w' := by
  have hv0 := w0.1
  obtain ⟨s0, c0, rfl, hx0, hx1⟩ := w0.1
  clear hx0 hx1
  have hn0 := w0.2.1
  have hi0 := w0.2.2
  unfold maxLen at hn0
  clear w0
  have HV0 := Lib.hid hv0
  clear hv0
  obtain ⟨R, hR⟩ : ∃ R, R = Fw.selF l0 a1 := ⟨_, rfl⟩
  have HS : Hid (∀ (x0 o0 k0 : Nat) (W : World) (h0 : FlatAt W (.slice (some ⟨x0, o0, none⟩) l0.length k0) l0.length (ints l0)) (b0 : l0.length ≤ 1048576), Calls Try.prog 52 #[(.agg #[(.slice (some ⟨x0, o0, none⟩) l0.length k0)]), .int .i64 a1] W (fun e w' => e = .returned (.tuple #[.int .i64 R.1, .bool R.2]) ∧ Below W.heap.size W w')) := Lib.hid (fun x0 o0 k0 W h0 b0 => by rw [hR]; exact (fun x o k l a W h b i _ => specFs_any x o k l a W h b i) x0 o0 k0 l0 a1 W h0 b0 hi0 w1)
  have HI : Hid (∀ (x0 o0 k0 : Nat) (W : World) (h0 : FlatAt W (.slice (some ⟨x0, o0, none⟩) l0.length k0) l0.length (ints l0)) (b0 : l0.length ≤ 1048576), Calls Try.prog 51 #[(.agg #[(.slice (some ⟨x0, o0, none⟩) l0.length k0)]), .int .i64 a1] W (fun e w' => e = .returned (.tuple #[.int .i64 R.1, .bool R.2]) ∧ Below W.heap.size W w')) := Lib.hid (fun x0 o0 k0 W h0 b0 => by rw [hR]; exact (fun x o k l a W h b i _ => implFs_any x o k l a W h b i) x0 o0 k0 l0 a1 W h0 b0 hi0 w1)
  clear hR
  obtain ⟨R1, R2⟩ := R
  obtain ⟨wb, hWb, hxb, hzb, hbb⟩ := box1 w 66 (.slice s0 l0.length c0)
  by_cases hl0 : l0.length ≤ 1048576
  case neg =>
    clear HS HI
    have hg0 : (1048576 : Int) < l0.length := by omega
    have hlm0 : l0.length ≤ 9223372036854775807 := by omega
    have HSZ := Lib.hid (szFenwick_any _ l0 1048576 wb (HV0.out.below hbb) hlm0 (by decide) (by decide))
    rw [if_pos hg0] at HSZ
    have HBB := Lib.hid hbb
    clear hbb hxb
    go_enter Try.func15, Try.ntmps15
    go_wp2_with fail
    rw [← hWb]
    refine HSZ.out.mono ?_
    rintro e w_1 ⟨rfl, hb⟩
    have HB := Lib.hid (HBB.out.trans (hb.mono HBB.out.size))
    clear hb
    go_wp2_with fail
    go_ret
    exact ⟨rfl, HB.out⟩
  have B0 : Hid (Below w.heap.size w wb) := Lib.hid hbb
  have XB := Lib.hid hxb
  have hcXB := Boxed.cell XB.out
  clear hbb hxb
  go_enter Try.func15, Try.ntmps15
  go_wp2_with fail
  rw [← hWb]
  have hsz0 : ¬ 1048576 - (l0.length : Int) < 0 := by omega
  have hsy0 : ¬ (1048576 : Int) < l0.length := by omega
  have hlm0 : l0.length ≤ 9223372036854775807 := by omega
  have HSZ := Lib.hid (szFenwick_any _ l0 1048576 wb (HV0.out.below B0.out) hlm0 (by decide) (by decide))
  rw [if_neg hsy0] at HSZ
  refine HSZ.out.mono ?_
  rintro e w_1 ⟨rfl, hb⟩
  clear HSZ
  have XBz := Lib.hid (boxed_below XB.out hb (Boxed.lt XB.out))
  clear XB
  have XB := XBz
  clear XBz
  clear hcXB
  have hcXB := Boxed.cell XB.out
  have BN := Lib.hid (B0.out.trans (hb.mono B0.out.size))
  clear B0
  have B1 := BN
  clear BN
  clear hb
  go_wp2_with fail
  refine (toFenwick_any _ l0 w_1 (HV0.out.below B1.out) hl0).mono ?_
  rintro e w_2 ⟨gcS02, hgc, rfl, hr, hb⟩
  clear hgc
  have S0 := Lib.hid hr
  have XBz := Lib.hid (boxed_below XB.out hb (Boxed.lt XB.out))
  clear XB
  have XB := XBz
  clear XBz
  clear hcXB
  have hcXB := Boxed.cell XB.out
  have BN := Lib.hid (B1.out.trans (hb.mono B1.out.size))
  clear B1
  have B2 := BN
  clear BN
  clear hr hb
  go_wp2_with fail
  refine (HS.out _ _ _ w_2 (S0.out.flat (Nat.le_refl _)) hl0).mono ?_
  rintro e w_3 ⟨rfl, hb⟩
  have XBz := Lib.hid (boxed_below XB.out hb (Boxed.lt XB.out))
  have S0z := Lib.hid (S0.out.below hb S0.out.1)
  clear XB
  have XB := XBz
  clear XBz
  clear hcXB
  have hcXB := Boxed.cell XB.out
  clear S0
  have S0 := S0z
  clear S0z
  have BN := Lib.hid (B2.out.trans (hb.mono B2.out.size))
  clear B2
  have B3 := BN
  clear BN
  clear hb
  clear S0
  clear HS
  go_wp2_with fail
  refine (toFenwick_any _ l0 w_3 (HV0.out.below B3.out) hl0).mono ?_
  rintro e w_4 ⟨gx0, hgc, rfl, hr, hb⟩
  have X0 := Lib.hid hr
  have lox0 : w.heap.size ≤ gx0 := Nat.le_trans B3.out.size hgc
  have ltx0XB := Nat.lt_of_lt_of_le (Boxed.lt XB.out) hgc
  have XBz := Lib.hid (boxed_below XB.out hb (Boxed.lt XB.out))
  clear XB
  have XB := XBz
  clear XBz
  clear hcXB
  have hcXB := Boxed.cell XB.out
  have BN := Lib.hid (B3.out.trans (hb.mono B3.out.size))
  clear B3
  have B4 := BN
  clear BN
  clear hr hb hgc
  obtain ⟨w_5, hWN, hxN, hzN, hb⟩ := box1 w_4 53 (.slice (some ⟨gx0, 0, none⟩) l0.length l0.length)
  have ltXXXB := (Boxed.lt XB.out)
  have ltXXX0 := X0.out.1
  have XBz := Lib.hid (boxed_below XB.out hb (Boxed.lt XB.out))
  have X0z := Lib.hid (X0.out.below hb X0.out.1)
  clear XB
  have XB := XBz
  clear XBz
  clear hcXB
  have hcXB := Boxed.cell XB.out
  clear X0
  have X0 := X0z
  clear X0z
  have BN := Lib.hid (B4.out.trans (hb.mono B4.out.size))
  clear B4
  have B5 := BN
  clear BN
  have XX := Lib.hid hxN
  have hcXX := Boxed.cell XX.out
  have hWrXX := hWN.symm
  clear hWN hxN hzN hb
  skip
  go_wp2_with fail
  clear hWrXX
  refine (HI.out _ _ _ w_5 (X0.out.flat (Nat.le_refl _)) hl0).mono ?_
  rintro e w_6 ⟨rfl, hb⟩
  have XBz := Lib.hid (boxed_below XB.out hb (Boxed.lt XB.out))
  have XXz := Lib.hid (boxed_below XX.out hb (Boxed.lt XX.out))
  have X0z := Lib.hid (X0.out.below hb X0.out.1)
  clear XB
  have XB := XBz
  clear XBz
  clear hcXB
  have hcXB := Boxed.cell XB.out
  clear X0
  have X0 := X0z
  clear X0z
  clear XX
  have XX := XXz
  clear XXz
  clear hcXX
  have hcXX := Boxed.cell XX.out
  have BN := Lib.hid (B5.out.trans (hb.mono B5.out.size))
  clear B5
  have B6 := BN
  clear BN
  clear hb
  go_upto_region 10 with fail
  have HCMP : Hid (∀ W2, Below w_6.heap.size w_6 W2 → Calls Try.prog 55 #[.agg #[.slice s0 l0.length c0]] W2 fun e w' => ∃ gy, e = .returned (.agg #[.slice (some ⟨gy, 0, none⟩) l0.length l0.length]) ∧ w'.cell? ⟨w_4.heap.size, 0, none⟩ = some (.slice (some ⟨gx0, 0, none⟩) l0.length l0.length) ∧ ∀ W3, Below w'.heap.size w' W3 → Calls Try.prog 56 #[.agg #[.slice (some ⟨gx0, 0, none⟩) l0.length l0.length], .agg #[.slice (some ⟨gy, 0, none⟩) l0.length l0.length]] W3 fun e w4 => e = .returned (.bool true) ∧ Below w_6.heap.size w_6 w4) := Lib.hid (fun W2 h2 => (toFenwick_any _ l0 W2 (HV0.out.below (B6.out.trans (h2.mono B6.out.size))) hl0).mono (by
      rintro e w' ⟨gy, hgy, rfl, hry, hby⟩
      refine ⟨gy, rfl, Boxed.cell (boxed_below (boxed_below XX.out h2 (Boxed.lt XX.out)) hby (Boxed.lt (boxed_below XX.out h2 (Boxed.lt XX.out)))), fun W3 h3 => ?_⟩
      have hX2 := X0.out.below h2 X0.out.1
      have hX3 := hX2.below hby hX2.1
      refine (eqFenwick_yes _ _ l0 W3 ((hX3.below h3 hX3.1).flat (Nat.le_refl _)) ((hry.below h3 hry.1).flat (Nat.le_refl _)) hl0).mono ?_
      rintro e w4 ⟨rfl, h4⟩
      exact ⟨rfl, h2.trans ((hby.mono h2.size).trans ((h3.mono (Nat.le_trans h2.size hby.size)).trans (h4.mono (Nat.le_trans h2.size (Nat.le_trans hby.size h3.size)))))⟩))
  go_cut [43] from 39 to 43 (fun u wx => u = .bool false ∧ Below w_6.heap.size w_6 wx)
  case first =>
    clear X0
    go_region_with (first | (go_at_call 55; refine (HCMP.out _ (by first | exact Below.refl _ _ | exact ⟨rfl, rfl, rfl, Nat.le_refl _, fun _ _ => rfl⟩)).mono ?_; rintro e wa ⟨gy, rfl, hcy, HE⟩) | (go_at_call 56; refine (HE _ (by first | exact Below.refl _ _ | exact ⟨rfl, rfl, rfl, Nat.le_refl _, fun _ _ => rfl⟩)).mono ?_; rintro e wb4 ⟨rfl, hb4⟩))
    all_goals (
      go_wp2_with fail
      go_meet
      first | exact ⟨rfl, hb4⟩ | exact ⟨rfl, hb4.trans ⟨rfl, rfl, rfl, Nat.le_refl _, fun _ _ => rfl⟩⟩)
  case rest =>
    obtain ⟨rfl, hb⟩ := hcut
    clear HCMP
    obtain ⟨w_7, hwc⟩ : ∃ x, x = wc := ⟨_, rfl⟩
    rw [← hwc] at hb ⊢
    clear hwc
    have XBz := Lib.hid (boxed_below XB.out hb (Boxed.lt XB.out))
    have XXz := Lib.hid (boxed_below XX.out hb (Boxed.lt XX.out))
    have X0z := Lib.hid (X0.out.below hb X0.out.1)
    clear XB
    have XB := XBz
    clear XBz
    clear hcXB
    have hcXB := Boxed.cell XB.out
    clear X0
    have X0 := X0z
    clear X0z
    clear XX
    have XX := XXz
    clear XXz
    clear hcXX
    have hcXX := Boxed.cell XX.out
    have BN := Lib.hid (B6.out.trans (hb.mono B6.out.size))
    clear B6
    have B7 := BN
    clear BN
    clear hb
    go_wp2_with fail
    go_ret
    exact ⟨rfl, B7.out⟩

set_option maxRecDepth 100000 in
theorem lifted (os : Os) (started : os.Started) (H : Type) (enc : TypeId × Value → H) :
    ReturnsInHanded {} Try.checked os 15 .any (Rows.fnExactFenwickSelectSpec.pre6 enc Try.prog Try.f15 Rows.fnExactFenwickSelectRow.domain false) (Rows.fnExactFenwickSelectSpec.post enc Try.prog Try.f15 false true false false) := by
  refine returnsInHanded_of_change (C := Try.checked) own started (by kernel_rfl) Try.func15
    (ChangeSpec.witness6 (enc := enc) (C := Try.checked) false ⟨#[], #[.agg #[.slice none 0 0], .int .i64 0], []⟩ 8 (by kernel_rfl) (by kernel_rfl) (by kernel_rfl) (by kernel_rfl)) ?_
  intro W base args ds gs before hval0 hW hcnd _
  have hval : ∀ (j : Nat) t v, Try.f15.params[j]? = some t → args[j]? = some v → Value.okWide Try.prog W .any base t v := hval0
  have hW' := hW
  obtain ⟨p, q, hA0, hV, rfl, hfz, hnd⟩ := hW
  have hA : DataW.TrodAll enc Try.prog W 0 (fun _ => true) true Try.f15.params.toList args.toList ds p := hA0
  rw [Try.params15] at hA hval
  obtain ⟨v0, vs0, d0, ds0, p0, q0, hargs, rfl, rfl, h0, r0⟩ := trodAll_cons hA
  obtain ⟨v1, vs1, d1, ds1, p1, q1, rfl, rfl, rfl, h1, r1⟩ := trodAll_cons r0
  obtain ⟨rfl, rfl, rfl⟩ := trodAll_nil r1
  obtain rfl : args = #[v0, v1] := by cases args; simp_all
  obtain ⟨rfl, rfl⟩ := trodVars_none hV
  obtain ⟨u0, l0, rfl, w0⟩ : ∃ (u : Value) (l : List Int), v0 = .agg #[u] ∧ FlatAt W u l.length (ints l) ∧ l.length ≤ maxLen ∧ Fw.IsW l := by
    obtain ⟨fuel, hf⟩ := h0
    exact open_fen (hval 0 66 v0 rfl rfl) hf
  have k0 := h0
  have lt0 : ∀ x ∈ p0, x.block < W.heap.size := by obtain ⟨m, hm⟩ := k0; exact DataW.trod_lt m _ _ _ hm
  obtain ⟨a1, rfl, rfl, rfl, w1⟩ := open_int Try.underlying3 (hval 1 3 v1 rfl rfl) h1
  clear hA0 hval0
  refine (walk u0 l0 a1 W w0 w1).mono fun e W' ⟨he, bel⟩ => ?_
  subst he
  exact ⟨_, rfl, _, _, _, [], _, [], hW', trodAll_mk1 (shut_bool Try.underlying4 _), (trodAll_cons_mk (Below.trod laidOut (by kernel_rfl) (of_decide_eq_true (by kernel_rfl)) k0 bel lt0) (trodAll_cons_mk (shut_int Try.underlying3 w1) trodAll_mk0)), rfl, bel.frame _, fun h => by cases h⟩

theorem closed : joinedFacts Try.prog 15 Try.f15 Rows.fnExactFenwickSelectSpec Rows.fnExactFenwickSelectRow = true := by
  unfold joinedFacts
  rw [head_enter, head_final, head_make]
  kernel_rfl

theorem over : Rows.fnExactFenwickSelectRow.holds Try.pinned (OpenSpec.ofChange Rows.fnExactFenwickSelectSpec) :=
  OpenClaim.holds_of_wide 15 Try.f15 rfl rfl rfl rfl rfl rfl rfl ⟨rfl, rfl, rfl, rfl, rfl⟩ rfl rfl rfl rfl rfl (by kernel_rfl) Try.func15 closed
    (of_decide_eq_true (by kernel_rfl)) (by unfold Func.isWrapper; first | (rw [if_pos (by decide +kernel)]; kernel_rfl) | (rw [if_neg (by decide +kernel)]; exact ⟨rfl, rfl⟩))
    (fun os started H enc _ => lifted os started H enc)

theorem proved : Rows.FnExactFenwickSelectSaid := over
#print axioms proved
end Go.Proofs.Ytgfdpjmhdijdiaa.fnExactFenwickSelect
