/- FnExactParseSpecs returns true at every input; the card ties the listed tables to the program's text. No condition. -/
import Derived.Test.YtcbeoihgaccjcaaDoorCards
import Derived.Test.YtcbeoihgaccjcaaDoorTie
import Derived.WalkKit
import Derived.ProofKit
import Derived.OpenShut
import Derived.ShutString
import Derived.ChangeOld
import Derived.Below
import Derived.Deep.DeepHandedRow
import Derived.Lib.LaidTab
import Derived.LaidLaws
import Derived.Stop.LaidErr
import Derived.Test.YtcbeoihgaccjcaaDoorPar
import Derived.Test.YtcbeoihgaccjcaaDoorKeySpecSE
import Derived.Test.YtcbeoihgaccjcaaDoorKeySpecSM
import Derived.Test.YtcbeoihgaccjcaaDoorKeySpecSH
namespace Go.Proofs.YtcbeoihgaccjcaaDoor.fnExactParseSpecs
open Go.ChangeShapes Go.WideShapes Go.ChangeAt Go.RowKit
open Go.ChangeMaps (open_string shut_string)
set_option linter.unusedVariables false

theorem own : ownKnob Tryd.prog.godebug = none := by kernel_rfl
theorem laidOut : laidOutB Tryd.prog = true := by kernel_rfl

theorem g_internal_strconv_uint64pow10 : Tryd.prog.globalNamed "internal/strconv.uint64pow10" = some 3 := by kernel_rfl
theorem gt_internal_strconv_uint64pow10 : (Tryd.prog.globals[3]?).map (·.type) = some 113 := by kernel_rfl
theorem c_internal_strconv_uint64pow10 : Tryd.prog.cellsOf 113 = 20 := by kernel_rfl
theorem ce_internal_strconv_uint64pow10 : Tryd.prog.cellsOf 41 = 1 := by kernel_rfl
theorem tab_internal_strconv_uint64pow10 {W : World} (h : laidMetH Tryd.prog Rows.fnExactParseSpecsRow.laid W) : Lib.TabIs Tryd.prog W "internal/strconv.uint64pow10" .u64 Lib.pow10Tab :=
  Lib.tabIs_of_head (rest := _) g_internal_strconv_uint64pow10 gt_internal_strconv_uint64pow10 Tryd.underlying113 Tryd.underlying41 ce_internal_strconv_uint64pow10 c_internal_strconv_uint64pow10 ((laidMet.tail (laidMet.tail (show laidMet Tryd.prog Rows.fnExactParseSpecsRow.laid W from h))))

theorem star : "*" ++ "errors.errorString" = "*errors.errorString" := by decide
theorem rowE (u : TypeId) (h : Tryd.prog.typeName? 3 u = some "*errors.errorString") : u = 118 :=
  typeName_ptr_named (nm := "errors.errorString") (by rw [star]; kernel_rfl) (by kernel_rfl) (by decide) u (by rw [star]; exact h)
theorem cellsE : Tryd.prog.cellsOf 120 = 1 := by kernel_rfl
theorem cellsS : Tryd.prog.cellsOf 9 = 1 := by kernel_rfl
theorem g_strconv_ErrRange : Tryd.prog.globalNamed "strconv.ErrRange" = some 2 := by kernel_rfl
theorem gt_strconv_ErrRange : (Tryd.prog.globals[2]?).map (·.type) = some 83 := by kernel_rfl
theorem sent_strconv_ErrRange {W : World} (h : laidMetH Tryd.prog Rows.fnExactParseSpecsRow.laid W) : VarIs W "strconv.ErrRange" := by
  obtain ⟨a0, s0, hv0, -, -, -⟩ := laid_sentinel (laidMet.tail (laidMet.tail (laidMet.tail (show laidMet Tryd.prog Rows.fnExactParseSpecsRow.laid W from h)))) g_strconv_ErrRange gt_strconv_ErrRange Tryd.underlying83 rowE Tryd.underlying118 Tryd.underlying120 rfl rfl Tryd.underlying9 cellsE cellsS
  exact varIs_of g_strconv_ErrRange hv0

theorem g_strconv_ErrSyntax : Tryd.prog.globalNamed "strconv.ErrSyntax" = some 1 := by kernel_rfl
theorem gt_strconv_ErrSyntax : (Tryd.prog.globals[1]?).map (·.type) = some 83 := by kernel_rfl
theorem sent_strconv_ErrSyntax {W : World} (h : laidMetH Tryd.prog Rows.fnExactParseSpecsRow.laid W) : VarIs W "strconv.ErrSyntax" := by
  obtain ⟨a0, s0, hv0, -, -, -⟩ := laid_sentinel (laidMet.tail (laidMet.tail (laidMet.tail (laidMet.tail (show laidMet Tryd.prog Rows.fnExactParseSpecsRow.laid W from h))))) g_strconv_ErrSyntax gt_strconv_ErrSyntax Tryd.underlying83 rowE Tryd.underlying118 Tryd.underlying120 rfl rfl Tryd.underlying9 cellsE cellsS
  exact varIs_of g_strconv_ErrSyntax hv0

-- FACTS (sent_strconv_ErrSyntax hL) (sent_strconv_ErrRange hL) (tab_internal_strconv_uint64pow10 hL)
set_option maxRecDepth 100000 in
set_option maxHeartbeats 4000000 in
theorem walk (a0 : ByteArray) (w0 : a0.size ≤ maxLen) (w : World) (h1 : VarIs w "strconv.ErrSyntax") (h2 : VarIs w "strconv.ErrRange")
    (htab : Lib.TabIs Tryd.prog w "internal/strconv.uint64pow10" .u64 Lib.pow10Tab) :
    Calls Tryd.prog 5 #[.string a0] w fun e w' => e = .returned (.bool true) ∧ Below w.heap.size w w' := by
  have HTT := Lib.hid (Lib.tabBelow_of_tabIs htab)
  have HPI := Lib.hid (fun (t : ByteArray) (W : World) (ht : t.size ≤ 1048576) (hb : Below w.heap.size w W) => implParse_any t W ht (h1.later hb) (h2.later hb) (HTT.out W hb))
  have HI := Lib.hid (fun (W : World) (hs : a0.size ≤ 1048576) (hb : Below w.heap.size w W) => implPar_any a0 W hs (fun t W' ht hb' => HPI.out t W' ht (hb.trans (hb'.mono hb.size))))
  clear h1 h2 htab HTT HPI
  unfold maxLen at w0
  by_cases hs : a0.size ≤ 1048576
  · have hsz : ¬ (1048576 : Int) < (a0.size : Int) := by omega
    go_enter Tryd.func5, Tryd.ntmps5
    go_wp2_with fail
    refine (specPar_any a0 w hs).mono ?_
    rintro e w1 ⟨gw, cw, W, r, rfl, hcw, hgw, hrow, hof, hb⟩
    have RW := Lib.hid hrow
    have OW := Lib.hid hof
    have hW := hof.small
    have B1 := Lib.hid hb
    clear hrow hof hb hgw
    go_wp2_with fail
    refine (HI.out w1 hs B1.out).mono ?_
    rintro e w2 ⟨g, cg, G, r', rfl, hcg, hg, hrow, hof, hb⟩
    obtain ⟨e1, e2⟩ := ParRes.uniq OW.out hof
    subst e1 e2
    have hwg : gw < g := Nat.lt_of_lt_of_le RW.out.1 hg
    have hg0 : w.heap.size ≤ g := Nat.le_trans B1.out.size hg
    have RG2 := Lib.hid hrow
    have RW2 := Lib.hid (RW.out.below hb RW.out.1)
    have B2 := Lib.hid (B1.out.trans (hb.mono B1.out.size))
    clear hrow hof hb hg RW B1
    have hr : (r' == r') = true := by simp
    go_wp2_with fail
    refine (eqKeySpecS_yes _ _ G w2 (RG2.out.flat hcg) (RW2.out.flat hcw) (by omega)).mono ?_
    rintro e w3 ⟨rfl, hb⟩
    have RG3 := Lib.hid (RG2.out.below hb RG2.out.1)
    have RW3 := Lib.hid (RW2.out.below hb RW2.out.1)
    have B3 := Lib.hid (B2.out.trans (hb.mono B2.out.size))
    clear hb RG2 RW2 B2
    go_wp2_with fail
    refine (markKeySpecS_any g cg G 1 w3 RG3.out (by omega) (by omega)).mono ?_
    rintro e w4 ⟨rfl, hrow, hb⟩
    have RG4 := Lib.hid hrow
    have RW4 := Lib.hid (RW3.out.but hb (by omega))
    have B4 := Lib.hid (B3.out.trans (hb.below hg0 B3.out.size))
    clear hrow hb RG3 RW3 B3
    go_wp2_with fail
    refine (heldKeySpecS_any g cg G.length 1 w4 RG4.out (by omega) (by omega)).mono ?_
    rintro e w5 ⟨rfl, hb⟩
    have RG5 := Lib.hid (RG4.out.below hb RG4.out.1)
    have RW5 := Lib.hid (RW4.out.below hb RW4.out.1)
    have B5 := Lib.hid (B4.out.trans (hb.mono B4.out.size))
    clear hb RG4 RW4 B4
    go_wp2_with fail
    refine (HI.out w5 hs B5.out).mono ?_
    rintro e w6 ⟨gh, ch, H, r2, rfl, hch, hgh, hrow, hof, hb⟩
    obtain ⟨e1, e2⟩ := ParRes.uniq OW.out hof
    subst e1 e2
    have RH := Lib.hid hrow
    have RG6 := Lib.hid (RG5.out.below hb RG5.out.1)
    have RW6 := Lib.hid (RW5.out.below hb RW5.out.1)
    have B6 := Lib.hid (B5.out.trans (hb.mono B5.out.size))
    clear hrow hof hb hgh RG5 RW5 B5 hr
    have hr : (r2 == r2) = true := by simp
    go_wp2_with fail
    refine (eqKeySpecS_yes _ _ H w6 (RH.out.flat hch) (RW6.out.flat hcw) (by omega)).mono ?_
    rintro e w7 ⟨rfl, hb⟩
    have RG7 := Lib.hid (RG6.out.below hb RG6.out.1)
    have B7 := Lib.hid (B6.out.trans (hb.mono B6.out.size))
    clear hb RG6 RW6 B6 RH
    go_wp2_with fail
    refine (heldKeySpecS_any g cg H.length 1 w7 RG7.out (by omega) (by omega)).mono ?_
    rintro e w8 ⟨rfl, hb⟩
    have B8 := Lib.hid (B7.out.trans (hb.mono B7.out.size))
    clear hb RG7 B7
    go_wp2_with fail
    go_ret
    exact ⟨rfl, B8.out⟩
  · have hsz : (1048576 : Int) < (a0.size : Int) := by omega
    clear HI
    go_enter Tryd.func5, Tryd.ntmps5
    go_wp2_with fail
    go_ret
    exact ⟨rfl, Below.refl _ _⟩

set_option maxRecDepth 100000 in
theorem contract (H : Type) (enc : TypeId × Value → H) (W : World) (base : Nat) (args : Array Value) (ds gs : List (DataW H)) (before : List MemPlace)
    (hval : ∀ (j : Nat) t v, Tryd.f5.params[j]? = some t → args[j]? = some v → Value.okWide Tryd.prog W .any base t v)
    (hW : DataW.Whole enc Tryd.prog Tryd.f5.params.toList Rows.fnExactParseSpecsSpec.vars false W args.toList ds gs before) (hL : laidMetH Tryd.prog Rows.fnExactParseSpecsRow.laid W) :
    Calls Tryd.prog 5 args W fun e W' => ∃ v, e = .returned v ∧ Rows.fnExactParseSpecsSpec.post enc Tryd.prog Tryd.f5 false true false false W args v W' := by
  have hW' := hW
  obtain ⟨p, q, hA0, hV, rfl, hfz, hnd⟩ := hW
  have hA : DataW.TrodAll enc Tryd.prog W 0 (fun _ => true) true Tryd.f5.params.toList args.toList ds p := hA0
  rw [Tryd.params5] at hA hval
  obtain ⟨v0, vs0, d0, ds0, p0, q0, hargs, rfl, rfl, h0, r0⟩ := trodAll_cons hA
  obtain ⟨rfl, rfl, rfl⟩ := trodAll_nil r0
  obtain rfl : args = #[v0] := by cases args; simp_all
  obtain ⟨rfl, rfl⟩ := trodVars_none hV
  obtain ⟨a0, rfl, rfl, rfl, w0⟩ := open_string Tryd.underlying9 (hval 0 9 v0 rfl rfl) h0
  clear hA0
  simp only [List.append_nil] at hW'
  refine (walk a0 w0 W (sent_strconv_ErrSyntax hL) (sent_strconv_ErrRange hL) (tab_internal_strconv_uint64pow10 hL)).mono fun e W' ⟨he, bel⟩ => ?_
  subst he
  exact ⟨_, rfl, _, _, _, [], _, [], hW', trodAll_mk1 (shut_bool Tryd.underlying4 _), (trodAll_cons_mk (shut_string Tryd.underlying9 w0) trodAll_mk0), rfl, bel.frame _, fun h => by cases h⟩

noncomputable def low : Nat := (World.holding Tryd.prog default ⟨#[], #[], []⟩).heap.size
/-- A start that fits: the listed variables hold what their initialisers lay. -/
noncomputable def laidWorld (os : Os) : World :=
  let w0 := World.holding Tryd.prog os ⟨#[.cells #[.string { data := #[118, 97, 108, 117, 101, 32, 111, 117, 116, 32, 111, 102, 32, 114, 97, 110, 103, 101] }] 120, .cells #[.string { data := #[105, 110, 118, 97, 108, 105, 100, 32, 115, 121, 110, 116, 97, 120] }] 120], #[], []⟩
  { w0 with heap := (((((w0.heap.modify 4 fun
    | .cells _ t frozen => .cells #[.int .u8 0, .int .u8 1, .int .u8 28, .int .u8 2, .int .u8 29, .int .u8 14, .int .u8 24, .int .u8 3, .int .u8 30, .int .u8 22, .int .u8 20, .int .u8 15, .int .u8 25, .int .u8 17, .int .u8 4, .int .u8 8, .int .u8 31, .int .u8 27, .int .u8 13, .int .u8 23, .int .u8 21, .int .u8 19, .int .u8 16, .int .u8 7, .int .u8 26, .int .u8 12, .int .u8 18, .int .u8 6, .int .u8 11, .int .u8 5, .int .u8 10, .int .u8 9] t frozen
    | o => o).modify 5 fun
    | .cells _ t frozen => .cells #[.int .u8 0, .int .u8 1, .int .u8 56, .int .u8 2, .int .u8 57, .int .u8 49, .int .u8 28, .int .u8 3, .int .u8 61, .int .u8 58, .int .u8 42, .int .u8 50, .int .u8 38, .int .u8 29, .int .u8 17, .int .u8 4, .int .u8 62, .int .u8 47, .int .u8 59, .int .u8 36, .int .u8 45, .int .u8 43, .int .u8 51, .int .u8 22, .int .u8 53, .int .u8 39, .int .u8 33, .int .u8 30, .int .u8 24, .int .u8 18, .int .u8 12, .int .u8 5, .int .u8 63, .int .u8 55, .int .u8 48, .int .u8 27, .int .u8 60, .int .u8 41, .int .u8 37, .int .u8 16, .int .u8 46, .int .u8 35, .int .u8 44, .int .u8 21, .int .u8 52, .int .u8 32, .int .u8 23, .int .u8 11, .int .u8 54, .int .u8 26, .int .u8 40, .int .u8 15, .int .u8 34, .int .u8 20, .int .u8 31, .int .u8 10, .int .u8 25, .int .u8 14, .int .u8 19, .int .u8 9, .int .u8 13, .int .u8 8, .int .u8 7, .int .u8 6] t frozen
    | o => o).modify 3 fun
    | .cells _ t frozen => .cells #[.int .u64 1, .int .u64 10, .int .u64 100, .int .u64 1000, .int .u64 10000, .int .u64 100000, .int .u64 1000000, .int .u64 10000000, .int .u64 100000000, .int .u64 1000000000, .int .u64 10000000000, .int .u64 100000000000, .int .u64 1000000000000, .int .u64 10000000000000, .int .u64 100000000000000, .int .u64 1000000000000000, .int .u64 10000000000000000, .int .u64 100000000000000000, .int .u64 1000000000000000000, .int .u64 10000000000000000000] t frozen
    | o => o).modify 2 fun
    | .cells _ t frozen => .cells #[.iface 118 (.pointer (some ⟨low + 0, 0, none⟩))] t frozen
    | o => o).modify 1 fun
    | .cells _ t frozen => .cells #[.iface 118 (.pointer (some ⟨low + 1, 0, none⟩))] t frozen
    | o => o) }
theorem laid_met (os : Os) : laidMet Tryd.prog Rows.fnExactParseSpecsRow.laid ((laidWorld os).forCall (fun _ _ => 0) ⟨#[], #[.string ByteArray.empty], []⟩).memory :=
  laidMet_of_run' 8 (by kernel_rfl) (by kernel_rfl)
theorem reads (os : Os) {H : Type} (enc : TypeId × Value → H) : ∃ places, DataW.whole enc Tryd.prog ((laidWorld os).forCall (fun _ _ => 0) ⟨#[], #[.string ByteArray.empty], []⟩).memory Tryd.f5.params.toList Rows.fnExactParseSpecsSpec.vars false (#[.string ByteArray.empty] : Array Value).toList 8 = some ([.lit (.string [])], [], places) :=
  ⟨[], by kernel_rfl⟩

set_option maxRecDepth 100000 in
theorem lifted (os : Os) (started : os.Started) (H : Type) (enc : TypeId × Value → H) (F : Stop.Interp) :
    ReturnsInHanded {} Tryd.checked os 5 .any ((OpenSpec.ofChange Rows.fnExactParseSpecsSpec).preRow enc Tryd.prog Tryd.f5 Rows.fnExactParseSpecsRow.domain false Rows.fnExactParseSpecsRow.laid) (((OpenSpec.ofChange Rows.fnExactParseSpecsSpec).at F).post enc Tryd.prog Tryd.f5 false true false false) := by
  obtain ⟨places, hx⟩ := reads os enc
  refine returnsInHanded_of_row (C := Tryd.checked) (s := (OpenSpec.ofChange Rows.fnExactParseSpecsSpec)) own started (by kernel_rfl) Tryd.func5
    (witness_row_at (enc := enc) (C := Tryd.checked) false (laidWorld os) #[.string ByteArray.empty] rfl (by kernel_rfl) (by kernel_rfl) (by kernel_rfl)
      (OpenSpec.preRow_of_cond 8 hx (by kernel_rfl) (fun k hk => by cases hk) (by kernel_rfl) (laid_met os))) ?_
  intro W base args ds gs before hval hW _ _ _ hL _ _
  exact contract H enc W base args ds gs before hval hW hL

theorem said : Rows.FnExactParseSpecsSaid :=
  OpenClaim.holds_of_cond 5 Tryd.f5 rfl rfl rfl rfl rfl rfl rfl ⟨rfl, rfl, rfl, rfl, rfl⟩ rfl rfl rfl rfl rfl (by kernel_rfl) Tryd.func5 (by kernel_rfl)
    (of_decide_eq_true (by kernel_rfl)) (by unfold Func.isWrapper; first | (rw [if_pos (by decide +kernel)]; kernel_rfl) | (rw [if_neg (by decide +kernel)]; exact ⟨rfl, rfl⟩))
    (fun os started H enc _ F => by rw [OpenClaim.pre_eq_preRow]; exact lifted os started H enc F)

theorem plain (f : FuncId) (fn : Func) (hf : Tryd.pinned.checked.prog.funcNamed "loop.example/g00907/laws.FnExactParseSpecs" = some f) (hfn : Tryd.pinned.checked.prog.funcs[f]? = some fn) :
    true = Tryd.pinned.checked.prog.looks [] ∧ ∀ (j : Nat) t, fn.params[j]? = some t → Tryd.pinned.checked.prog.wantsStandIn t = false := by
  obtain rfl : f = 5 := Option.some.inj ((show Tryd.prog.funcNamed "loop.example/g00907/laws.FnExactParseSpecs" = some 5 by kernel_rfl).symm.trans hf) |>.symm
  obtain rfl : fn = Tryd.f5 := (Option.some.inj (Tryd.func5.symm.trans hfn)).symm
  refine ⟨by kernel_rfl, fun j t ht => ?_⟩
  rw [Tryd.params5] at ht
  obtain rfl : t = 9 := by simpa using Array.mem_of_getElem? ht
  exact (show Tryd.prog.wantsStandIn 9 = false by kernel_rfl)

theorem card : Rows.FnExactParseSpecsCardSaid :=
  Claim7.holds_tied_plain_at .later [] _ _ _ _ said (fun _ h => by cases h) (by kernel_rfl) (fun _ h => by cases h) fnExactParseSpecs_row_tie rfl ⟨rfl, rfl⟩ (by kernel_rfl) rfl plain (by kernel_rfl)
#print axioms card
end Go.Proofs.YtcbeoihgaccjcaaDoor.fnExactParseSpecs
