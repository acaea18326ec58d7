/- FnSpecs returns true at every input; the card ties the listed tables to the program's text. No condition. -/
import Derived.Test.YtcbeoihgaccjcaaDoorCards
import Derived.Test.YtcbeoihgaccjcaaDoorTie
import Derived.WalkKit
import Derived.ProofKit
import Derived.OpenShut
import Derived.ShutString
import Derived.ChangeOld
import Derived.Below
import Derived.Deep.DeepHandedRow
import Derived.Lib.LaidTab
import Derived.LaidLaws
import Derived.Stop.LaidErr
import Derived.Test.YtcbeoihgaccjcaaDoorPar
import Derived.Test.YtcbeoihgaccjcaaDoorDrawP
import Derived.Test.YtcbeoihgaccjcaaDoorIFmtS
import Derived.Test.YtcbeoihgaccjcaaDoorParse
import Derived.Test.YtcbeoihgaccjcaaDoorFmtS
namespace Go.Proofs.YtcbeoihgaccjcaaDoor.fnSpecs
open Go.ChangeShapes Go.WideShapes Go.ChangeAt Go.RowKit
open Go.ChangeMaps (open_string shut_string)
set_option linter.unusedVariables false

theorem own : ownKnob Tryd.prog.godebug = none := by kernel_rfl
theorem laidOut : laidOutB Tryd.prog = true := by kernel_rfl

theorem g_internal_strconv_uint64pow10 : Tryd.prog.globalNamed "internal/strconv.uint64pow10" = some 3 := by kernel_rfl
theorem gt_internal_strconv_uint64pow10 : (Tryd.prog.globals[3]?).map (·.type) = some 113 := by kernel_rfl
theorem c_internal_strconv_uint64pow10 : Tryd.prog.cellsOf 113 = 20 := by kernel_rfl
theorem ce_internal_strconv_uint64pow10 : Tryd.prog.cellsOf 41 = 1 := by kernel_rfl
theorem tab_internal_strconv_uint64pow10 {W : World} (h : laidMetH Tryd.prog Rows.fnSpecsRow.laid W) : Lib.TabIs Tryd.prog W "internal/strconv.uint64pow10" .u64 Lib.pow10Tab :=
  Lib.tabIs_of_head (rest := _) g_internal_strconv_uint64pow10 gt_internal_strconv_uint64pow10 Tryd.underlying113 Tryd.underlying41 ce_internal_strconv_uint64pow10 c_internal_strconv_uint64pow10 ((laidMet.tail (laidMet.tail (show laidMet Tryd.prog Rows.fnSpecsRow.laid W from h))))

theorem star : "*" ++ "errors.errorString" = "*errors.errorString" := by decide
theorem rowE (u : TypeId) (h : Tryd.prog.typeName? 3 u = some "*errors.errorString") : u = 118 :=
  typeName_ptr_named (nm := "errors.errorString") (by rw [star]; kernel_rfl) (by kernel_rfl) (by decide) u (by rw [star]; exact h)
theorem cellsE : Tryd.prog.cellsOf 120 = 1 := by kernel_rfl
theorem cellsS : Tryd.prog.cellsOf 9 = 1 := by kernel_rfl
theorem g_strconv_ErrRange : Tryd.prog.globalNamed "strconv.ErrRange" = some 2 := by kernel_rfl
theorem gt_strconv_ErrRange : (Tryd.prog.globals[2]?).map (·.type) = some 83 := by kernel_rfl
theorem sent_strconv_ErrRange {W : World} (h : laidMetH Tryd.prog Rows.fnSpecsRow.laid W) : VarIs W "strconv.ErrRange" := by
  obtain ⟨a0, s0, hv0, -, -, -⟩ := laid_sentinel (laidMet.tail (laidMet.tail (laidMet.tail (show laidMet Tryd.prog Rows.fnSpecsRow.laid W from h)))) g_strconv_ErrRange gt_strconv_ErrRange Tryd.underlying83 rowE Tryd.underlying118 Tryd.underlying120 rfl rfl Tryd.underlying9 cellsE cellsS
  exact varIs_of g_strconv_ErrRange hv0

theorem g_strconv_ErrSyntax : Tryd.prog.globalNamed "strconv.ErrSyntax" = some 1 := by kernel_rfl
theorem gt_strconv_ErrSyntax : (Tryd.prog.globals[1]?).map (·.type) = some 83 := by kernel_rfl
theorem sent_strconv_ErrSyntax {W : World} (h : laidMetH Tryd.prog Rows.fnSpecsRow.laid W) : VarIs W "strconv.ErrSyntax" := by
  obtain ⟨a0, s0, hv0, -, -, -⟩ := laid_sentinel (laidMet.tail (laidMet.tail (laidMet.tail (laidMet.tail (show laidMet Tryd.prog Rows.fnSpecsRow.laid W from h))))) g_strconv_ErrSyntax gt_strconv_ErrSyntax Tryd.underlying83 rowE Tryd.underlying118 Tryd.underlying120 rfl rfl Tryd.underlying9 cellsE cellsS
  exact varIs_of g_strconv_ErrSyntax hv0

-- FACTS (sent_strconv_ErrSyntax hL) (sent_strconv_ErrRange hL) (tab_internal_strconv_uint64pow10 hL)
def IsRow (k : IntKind) (w : World) (a : Option Addr) (len cap : Nat) (zs : List Int) : Prop :=
  (a = none ∧ len = 0 ∧ cap = 0 ∧ zs = []) ∨
  ∃ x, a = some x ∧ len ≤ cap ∧ cap ≤ maxLen ∧ zs.length = cap ∧ (∀ i, i < zs.length → w.cell? (x.add i) = some (.int k (zs.getD i 0))) ∧ ∀ n ∈ zs, (Lit.int k n).wf = true

theorem code_of {w : World} {a : Option Addr} {len cap : Nat} {zs : List Int} (h : IsRow .u8 w a len cap zs) : Code0 w a len := by
  intro k hk
  rcases h with ⟨_, rfl, _⟩ | ⟨x, rfl, hlc, _, hz, hc, hw⟩
  · omega
  · have hkz : k < zs.length := by omega
    have hd : zs.getD k 0 = zs[k] := by simp [List.getD, hkz]
    have hm := hw zs[k] (List.getElem_mem hkz)
    have hcell := hc k hkz
    rw [hd] at hcell
    have hlt := World.block_lt_of_cell? w _ hcell
    have hbk := Go.ChangeShapes.block_add x k
    have hr := bounds_u8 hm
    exact ⟨x, zs[k], rfl, by omega, hcell, hr.1, hr.2⟩

theorem vbig_no (a : Option Addr) (len cap : Nat) (w : World) (h : len ≤ 65536) : Calls Tryd.prog 6 #[.slice a len cap] w fun e w' => e = .returned (.bool false) ∧ w' = w := by
  go_enter Tryd.func6, Tryd.ntmps6
  have hq : decide ((65536 : Int) < (len : Int)) = false := decide_eq_false (by omega)
  go_wp2
  go_ret
  exact ⟨by rw [← hq]; rfl, rfl⟩

theorem parsed_own {l : List (Int × Bool × Bool × Bool)} (h : OkS l) : ParRes ⟨(specText l).toArray⟩ l true := .inl ⟨rfl, h, rfl⟩
theorem fmt_own {t : ByteArray} {ks : List (Int × Bool × Bool × Bool)} (h : ParRes t ks true) : fmtSVal ks = .tuple #[.string t, .bool true] := by
  rcases h with ⟨_, h⟩ | ⟨e, _⟩
  · unfold fmtSVal
    rw [if_pos h.1, h.2]
  · cases e

set_option maxRecDepth 100000 in
set_option maxHeartbeats 8000000 in
theorem walk (a : Option Addr) (len cap : Nat) (z : List Int) (w : World) (w0 : IsRow .u8 w a len cap z) (h1 : VarIs w "strconv.ErrSyntax") (h2 : VarIs w "strconv.ErrRange")
    (htab : Lib.TabIs Tryd.prog w "internal/strconv.uint64pow10" .u64 Lib.pow10Tab) :
    Calls Tryd.prog 3 #[.slice a len cap] w fun e w' => e = .returned (.bool true) ∧ Below w.heap.size w w' := by
  have HTT := Lib.hid (Lib.tabBelow_of_tabIs htab)
  have HPI := Lib.hid (fun (t : ByteArray) (W : World) (ht : t.size ≤ 1048576) (hb : Below w.heap.size w W) => implParse_any t W ht (h1.later hb) (h2.later hb) (HTT.out W hb))
  have HI := Lib.hid (fun (s : ByteArray) (W : World) (hs : s.size ≤ 1048576) (hb : Below w.heap.size w W) => implPar_any s W hs (fun t W' ht hb' => HPI.out t W' ht (hb.trans (hb'.mono hb.size))))
  clear h1 h2 htab HPI
  have hlen : len ≤ maxLen := by
    rcases w0 with ⟨_, rfl, _⟩ | ⟨x, _, h1, h2, _⟩ <;> omega
  unfold maxLen at hlen
  have HCODE := Lib.hid (code_of w0)
  clear w0
  by_cases hbig : 65536 < len
  · clear HCODE HI HTT
    go_enter Tryd.func3, Tryd.ntmps3
    go_wp2
    go_ret
    exact ⟨rfl, Below.refl _ _⟩
  · go_enter Tryd.func3, Tryd.ntmps3
    go_wp2_with fail
    refine (vbig_no a len cap _ (by omega)).mono ?_
    rintro e w0 ⟨rfl, rfl⟩
    go_wp2_with fail
    refine (drawFmtS_any a len cap _ HCODE.out).mono ?_
    rintro e w1 ⟨v, l, hl, rfl, hfl, hb1⟩
    have hfl0 := hfl
    obtain ⟨al, cl, rfl, _, _⟩ := hfl0
    have hval0 : ∃ (s : ByteArray) (r : Bool), fmtSVal l = .tuple #[.string s, .bool r] ∧ (r = true → OkS l ∧ ParRes s l true) ∧ s.size ≤ 100 := by
      by_cases hok : OkS l
      · refine ⟨⟨(specText l).toArray⟩, true, by unfold fmtSVal; rw [if_pos hok], fun _ => ⟨hok, parsed_own hok⟩, ?_⟩
        have h1 := specText_len l hok.2 l.length (Nat.le_refl _)
        rw [List.take_length] at h1
        show (specText l).toArray.size ≤ 100
        rw [List.size_toArray]; omega
      · exact ⟨⟨#[]⟩, false, by unfold fmtSVal; rw [if_neg hok], (fun e => absurd e (by decide)), by decide⟩
    obtain ⟨s, ok, hval, hok, hss⟩ := hval0
    have HOK := Lib.hid hok
    have HL1 := Lib.hid hfl
    have B1 := Lib.hid hb1
    clear hfl hb1 hok
    go_wp2_with fail
    refine (implFmtS_any _ l w1 HL1.out (by omega) (HTT.out _ B1.out)).mono ?_
    rw [hval]
    rintro e w2 ⟨rfl, hb⟩
    have HL2 := Lib.hid (HL1.out.below hb)
    have B2 := Lib.hid (B1.out.trans (hb.mono B1.out.size))
    clear hb HL1 B1
    go_wp2_with fail
    refine (specFmtS_any _ l w2 HL2.out (by omega)).mono ?_
    rw [hval]
    rintro e w3 ⟨rfl, hb⟩
    have HL3 := Lib.hid (HL2.out.below hb)
    have B3 := Lib.hid (B2.out.trans (hb.mono B2.out.size))
    clear hb HL2 B2
    have hse : (s.toList == s.toList) = true := by simp
    have hoe : (ok == ok) = true := by simp
    go_wp2_with fail
    refine (drawParS_any a len cap _ (HCODE.out.below B3.out)).mono ?_
    rintro e w4 ⟨t, ht, rfl, hb⟩
    have HL4 := Lib.hid (HL3.out.below hb)
    have B4 := Lib.hid (B3.out.trans (hb.mono B3.out.size))
    clear hb HL3 B3 HCODE
    go_wp2_with fail
    refine (HI.out t w4 (by omega) B4.out).mono ?_
    rintro e w5 ⟨g, cg, G, fine, rfl, hcg, hg, hrow, hof, hb⟩
    have OG := Lib.hid hof
    have RG5 := Lib.hid hrow
    have HL5 := Lib.hid (HL4.out.below hb)
    have B5 := Lib.hid (B4.out.trans (hb.mono B4.out.size))
    have hG := hof.small
    clear hrow hof hb hg HL4 B4
    go_wp2_with fail
    refine (specPar_any t w5 (by omega)).mono ?_
    rintro e w6 ⟨g', cg', G', fine', rfl, hcg', hg', hrow, hof, hb⟩
    obtain ⟨e1, e2⟩ := ParRes.uniq OG.out hof
    subst e1 e2
    have RW6 := Lib.hid hrow
    have RG6 := Lib.hid (RG5.out.below hb RG5.out.1)
    have HL6 := Lib.hid (HL5.out.below hb)
    have B6 := Lib.hid (B5.out.trans (hb.mono B5.out.size))
    clear hrow hof hb hg' HL5 B5 RG5 hse hoe
    have hfe : (fine' == fine') = true := by simp
    obtain ⟨ag, told, hvg, hfg⟩ : ∃ (ag : ByteArray) (told : Bool), fmtSVal G' = .tuple #[.string ag, .bool told] ∧ (fine' = true → told = true ∧ ag = t) := by
      cases fine'
      · unfold fmtSVal; split
        · exact ⟨_, _, rfl, fun e => absurd e (by decide)⟩
        · exact ⟨_, _, rfl, fun e => absurd e (by decide)⟩
      · exact ⟨t, true, fmt_own OG.out, fun _ => ⟨rfl, rfl⟩⟩
    have HFG := Lib.hid hfg
    clear hfg
    go_wp2_with fail
    go_loopw [13] (fun i wr => ∃ k : Nat, k ≤ G'.length ∧ i = .int .i64 k ∧ Below w6.heap.size w6 wr) (fun i _ => G'.length - (intOf i).toNat)
    case atStart => exact ⟨0, Nat.zero_le _, rfl, Below.refl _ _⟩
    case round =>
      obtain ⟨k, hk, rfl, hb⟩ := hrel
      have HB := Lib.hid hb
      have RGr := Lib.hid (RG6.out.below hb RG6.out.1)
      have RWr := Lib.hid (RW6.out.below hb RW6.out.1)
      clear hb
      by_cases hlt : k < G'.length
      · obtain ⟨p, hp⟩ : ∃ p, G'[k]? = some p := ⟨_, List.getElem?_eq_getElem hlt⟩
        obtain ⟨hk0, hk1, hk2, hk3⟩ := keys_at hp
        have hw0 := (RGr.out.2 _ _ hk0).1
        have hw1 := (RGr.out.2 _ _ hk1).1
        have hw2 := (RGr.out.2 _ _ hk2).1
        have hw3 := (RGr.out.2 _ _ hk3).1
        have hv0 := (RWr.out.2 _ _ hk0).1
        have hv1 := (RWr.out.2 _ _ hk1).1
        have hv2 := (RWr.out.2 _ _ hk2).1
        have hv3 := (RWr.out.2 _ _ hk3).1
        clear hk0 hk1 hk2 hk3 hp
        have HBD : Hid (Below w6.heap.size w6 wr.drew) := Lib.hid (HB.out.trans ((below_drewK wr _)))
        go_wp2_with fail
        go_region_with (fail)
        all_goals
          go_wp2_with fail
          go_roundw
          case rel => exact ⟨k + 1, by omega, by go_num, HBD.out⟩
          case measure => simp [intOf]; omega
      · have B7 := Lib.hid (B6.out.trans (HB.out.mono B6.out.size))
        have HL7 := Lib.hid (HL6.out.below HB.out)
        clear RWr RW6 RG6 HL6 B6 HB
        go_wp2_with fail
        refine (HI.out s wr (by omega) B7.out).mono ?_
        rintro e w8 ⟨gb, cb, K, there, rfl, hcb, hgb, hrow, hofb, hb⟩
        have OK8 := Lib.hid hofb
        have RB8 := Lib.hid hrow
        have RG8 := Lib.hid (RGr.out.below hb RGr.out.1)
        have HL8 := Lib.hid (HL7.out.below hb)
        have B8 := Lib.hid (B7.out.trans (hb.mono B7.out.size))
        have hK := hofb.small
        clear hrow hofb hb hgb RGr HL7 B7
        go_wp2_with fail
        refine (implFmtS_any _ G' w8 (RG8.out.flat hcg) (by omega) (HTT.out _ B8.out)).mono ?_
        rw [hvg]
        rintro e w9 ⟨rfl, hb⟩
        have RB9 := Lib.hid (RB8.out.below hb RB8.out.1)
        have HL9 := Lib.hid (HL8.out.below hb)
        have B9 := Lib.hid (B8.out.trans (hb.mono B8.out.size))
        clear hb RG8 RB8 HL8 B8
        have HFIN : fine' = false ∨ (fine' = true ∧ told = true ∧ ag = t) := by
          cases fine'
          · exact .inl rfl
          · exact .inr ⟨rfl, HFG.out rfl⟩
        have hte : (t.toList == t.toList) = true := by simp
        cases ok
        · rcases HFIN with rfl | ⟨rfl, rfl, rfl⟩
          · go_wp2_with fail
            go_ret
            exact ⟨rfl, B9.out⟩
          · go_wp2_with fail
            go_ret
            exact ⟨rfl, B9.out⟩
        · obtain ⟨rfl, rfl⟩ := ParRes.uniq (HOK.out rfl).2 OK8.out
          go_wp2_with fail
          go_loopw [18] (fun i wr => ∃ k : Nat, k ≤ K.length ∧ i = .int .i64 k ∧ Below w9.heap.size w9 wr) (fun i _ => K.length - (intOf i).toNat)
          case atStart => exact ⟨0, Nat.zero_le _, rfl, Below.refl _ _⟩
          case round wr2 _ =>
            obtain ⟨k2, hk2, rfl, hb⟩ := hrel
            have HB := Lib.hid hb
            have RBr := Lib.hid (RB9.out.below hb RB9.out.1)
            have HLr := Lib.hid (HL9.out.below hb)
            clear hb
            by_cases hlt2 : k2 < K.length
            · obtain ⟨p, hp⟩ : ∃ p, K[k2]? = some p := ⟨_, List.getElem?_eq_getElem hlt2⟩
              obtain ⟨al', cl', he, _, hf⟩ := HLr.out
              simp only [Value.slice.injEq, true_and] at he
              obtain ⟨rfl, rfl⟩ := he
              obtain ⟨b', o', rfl, hbb', hv0, hv1, hv2, hv3⟩ := keys_el hf hp
              clear hf
              obtain ⟨hk0, hk1, hk2', hk3⟩ := keys_at hp
              have hw0 := (RBr.out.2 _ _ hk0).1
              have hw1 := (RBr.out.2 _ _ hk1).1
              have hw2 := (RBr.out.2 _ _ hk2').1
              have hw3 := (RBr.out.2 _ _ hk3).1
              clear hk0 hk1 hk2' hk3 hp
              have HBD := Lib.hid (HB.out.trans ((below_drewK _ _)))
              go_wp2_with fail
              go_region_with (fail)
              all_goals
                go_wp2_with fail
                go_roundw
                case rel => exact ⟨k2 + 1, by omega, by go_num, HBD.out⟩
                case measure => simp [intOf]; omega
            · have BF := Lib.hid (B9.out.trans (HB.out.mono B9.out.size))
              clear HB
              rcases HFIN with rfl | ⟨rfl, rfl, rfl⟩
              · go_wp2_with fail
                go_ret
                exact ⟨rfl, BF.out⟩
              · go_wp2_with fail
                go_ret
                exact ⟨rfl, BF.out⟩

set_option maxRecDepth 100000 in
theorem contract (H : Type) (enc : TypeId × Value → H) (W : World) (base : Nat) (args : Array Value) (ds gs : List (DataW H)) (before : List MemPlace)
    (hval : ∀ (j : Nat) t v, Tryd.f3.params[j]? = some t → args[j]? = some v → Value.okWide Tryd.prog W .any base t v)
    (hW : DataW.Whole enc Tryd.prog Tryd.f3.params.toList Rows.fnSpecsSpec.vars false W args.toList ds gs before) (hL : laidMetH Tryd.prog Rows.fnSpecsRow.laid W) :
    Calls Tryd.prog 3 args W fun e W' => ∃ v, e = .returned v ∧ Rows.fnSpecsSpec.post enc Tryd.prog Tryd.f3 false true false false W args v W' := by
  have hW' := hW
  obtain ⟨p, q, hA0, hV, rfl, hfz, hnd⟩ := hW
  have hA : DataW.TrodAll enc Tryd.prog W 0 (fun _ => true) true Tryd.f3.params.toList args.toList ds p := hA0
  rw [Tryd.params3] at hA hval
  obtain ⟨v0, vs0, d0, ds0, p0, q0, hargs, rfl, rfl, h0, r0⟩ := trodAll_cons hA
  obtain ⟨rfl, rfl, rfl⟩ := trodAll_nil r0
  obtain rfl : args = #[v0] := by cases args; simp_all
  obtain ⟨rfl, rfl⟩ := trodVars_none hV
  obtain ⟨a0, len0, cap0, rfl⟩ := okWide_slice Tryd.underlying22 (hval 0 22 v0 rfl rfl)
  have k0 := h0
  have lt0 : ∀ x ∈ p0, x.block < W.heap.size := by obtain ⟨m, hm⟩ := k0; exact DataW.trod_lt m _ _ _ hm
  obtain ⟨z0, w0⟩ : ∃ zs, IsRow .u8 W a0 len0 cap0 zs := by
    obtain ⟨fuel, hf⟩ := h0
    rcases open_ints Tryd.underlying22 Tryd.underlying5 (by kernel_rfl) hf with ⟨hcs, _⟩ | ⟨x, l, c, zs, hcs, _, hl, hm, hz, _, hcell, hwz⟩
    · simp [Value.cells] at hcs
      obtain ⟨rfl, rfl, rfl⟩ := hcs
      exact ⟨[], .inl ⟨rfl, rfl, rfl, rfl⟩⟩
    · simp [Value.cells] at hcs
      obtain ⟨rfl, rfl, rfl⟩ := hcs
      exact ⟨zs, .inr ⟨_, rfl, hl, hm, by simpa using hz, hcell, hwz⟩⟩
  clear hA0
  simp only [List.append_nil] at hW'
  refine (walk a0 len0 cap0 z0 W w0 (sent_strconv_ErrSyntax hL) (sent_strconv_ErrRange hL) (tab_internal_strconv_uint64pow10 hL)).mono fun e W' ⟨he, bel⟩ => ?_
  subst he
  exact ⟨_, rfl, _, _, _, [], _, [], hW', trodAll_mk1 (shut_bool Tryd.underlying4 _), (trodAll_cons_mk (Below.trod laidOut (by kernel_rfl) (of_decide_eq_true (by kernel_rfl)) k0 bel lt0) trodAll_mk0), rfl, bel.frame _, fun h => by cases h⟩

noncomputable def low : Nat := (World.holding Tryd.prog default ⟨#[], #[], []⟩).heap.size
/-- A start that fits: the listed variables hold what their initialisers lay. -/
noncomputable def laidWorld (os : Os) : World :=
  let w0 := World.holding Tryd.prog os ⟨#[.cells #[.string { data := #[118, 97, 108, 117, 101, 32, 111, 117, 116, 32, 111, 102, 32, 114, 97, 110, 103, 101] }] 120, .cells #[.string { data := #[105, 110, 118, 97, 108, 105, 100, 32, 115, 121, 110, 116, 97, 120] }] 120], #[], []⟩
  { w0 with heap := (((((w0.heap.modify 4 fun
    | .cells _ t frozen => .cells #[.int .u8 0, .int .u8 1, .int .u8 28, .int .u8 2, .int .u8 29, .int .u8 14, .int .u8 24, .int .u8 3, .int .u8 30, .int .u8 22, .int .u8 20, .int .u8 15, .int .u8 25, .int .u8 17, .int .u8 4, .int .u8 8, .int .u8 31, .int .u8 27, .int .u8 13, .int .u8 23, .int .u8 21, .int .u8 19, .int .u8 16, .int .u8 7, .int .u8 26, .int .u8 12, .int .u8 18, .int .u8 6, .int .u8 11, .int .u8 5, .int .u8 10, .int .u8 9] t frozen
    | o => o).modify 5 fun
    | .cells _ t frozen => .cells #[.int .u8 0, .int .u8 1, .int .u8 56, .int .u8 2, .int .u8 57, .int .u8 49, .int .u8 28, .int .u8 3, .int .u8 61, .int .u8 58, .int .u8 42, .int .u8 50, .int .u8 38, .int .u8 29, .int .u8 17, .int .u8 4, .int .u8 62, .int .u8 47, .int .u8 59, .int .u8 36, .int .u8 45, .int .u8 43, .int .u8 51, .int .u8 22, .int .u8 53, .int .u8 39, .int .u8 33, .int .u8 30, .int .u8 24, .int .u8 18, .int .u8 12, .int .u8 5, .int .u8 63, .int .u8 55, .int .u8 48, .int .u8 27, .int .u8 60, .int .u8 41, .int .u8 37, .int .u8 16, .int .u8 46, .int .u8 35, .int .u8 44, .int .u8 21, .int .u8 52, .int .u8 32, .int .u8 23, .int .u8 11, .int .u8 54, .int .u8 26, .int .u8 40, .int .u8 15, .int .u8 34, .int .u8 20, .int .u8 31, .int .u8 10, .int .u8 25, .int .u8 14, .int .u8 19, .int .u8 9, .int .u8 13, .int .u8 8, .int .u8 7, .int .u8 6] t frozen
    | o => o).modify 3 fun
    | .cells _ t frozen => .cells #[.int .u64 1, .int .u64 10, .int .u64 100, .int .u64 1000, .int .u64 10000, .int .u64 100000, .int .u64 1000000, .int .u64 10000000, .int .u64 100000000, .int .u64 1000000000, .int .u64 10000000000, .int .u64 100000000000, .int .u64 1000000000000, .int .u64 10000000000000, .int .u64 100000000000000, .int .u64 1000000000000000, .int .u64 10000000000000000, .int .u64 100000000000000000, .int .u64 1000000000000000000, .int .u64 10000000000000000000] t frozen
    | o => o).modify 2 fun
    | .cells _ t frozen => .cells #[.iface 118 (.pointer (some ⟨low + 0, 0, none⟩))] t frozen
    | o => o).modify 1 fun
    | .cells _ t frozen => .cells #[.iface 118 (.pointer (some ⟨low + 1, 0, none⟩))] t frozen
    | o => o) }
theorem laid_met (os : Os) : laidMet Tryd.prog Rows.fnSpecsRow.laid ((laidWorld os).forCall (fun _ _ => 0) ⟨#[], #[.slice none 0 0], []⟩).memory :=
  laidMet_of_run' 8 (by kernel_rfl) (by kernel_rfl)
theorem reads (os : Os) {H : Type} (enc : TypeId × Value → H) : ∃ places, DataW.whole enc Tryd.prog ((laidWorld os).forCall (fun _ _ => 0) ⟨#[], #[.slice none 0 0], []⟩).memory Tryd.f3.params.toList Rows.fnSpecsSpec.vars false (#[.slice none 0 0] : Array Value).toList 8 = some ([.nil], [], places) :=
  ⟨[], by kernel_rfl⟩

set_option maxRecDepth 100000 in
theorem lifted (os : Os) (started : os.Started) (H : Type) (enc : TypeId × Value → H) (F : Stop.Interp) :
    ReturnsInHanded {} Tryd.checked os 3 .any ((OpenSpec.ofChange Rows.fnSpecsSpec).preRow enc Tryd.prog Tryd.f3 Rows.fnSpecsRow.domain false Rows.fnSpecsRow.laid) (((OpenSpec.ofChange Rows.fnSpecsSpec).at F).post enc Tryd.prog Tryd.f3 false true false false) := by
  obtain ⟨places, hx⟩ := reads os enc
  refine returnsInHanded_of_row (C := Tryd.checked) (s := (OpenSpec.ofChange Rows.fnSpecsSpec)) own started (by kernel_rfl) Tryd.func3
    (witness_row_at (enc := enc) (C := Tryd.checked) false (laidWorld os) #[.slice none 0 0] rfl (by kernel_rfl) (by kernel_rfl) (by kernel_rfl)
      (OpenSpec.preRow_of_cond 8 hx (by kernel_rfl) (fun k hk => by cases hk) (by kernel_rfl) (laid_met os))) ?_
  intro W base args ds gs before hval hW _ _ _ hL _ _
  exact contract H enc W base args ds gs before hval hW hL

theorem said : Rows.FnSpecsSaid :=
  OpenClaim.holds_of_cond 3 Tryd.f3 rfl rfl rfl rfl rfl rfl rfl ⟨rfl, rfl, rfl, rfl, rfl⟩ rfl rfl rfl rfl rfl (by kernel_rfl) Tryd.func3 (by kernel_rfl)
    (of_decide_eq_true (by kernel_rfl)) (by unfold Func.isWrapper; first | (rw [if_pos (by decide +kernel)]; kernel_rfl) | (rw [if_neg (by decide +kernel)]; exact ⟨rfl, rfl⟩))
    (fun os started H enc _ F => by rw [OpenClaim.pre_eq_preRow]; exact lifted os started H enc F)

theorem plain (f : FuncId) (fn : Func) (hf : Tryd.pinned.checked.prog.funcNamed "loop.example/g00907/laws.FnSpecs" = some f) (hfn : Tryd.pinned.checked.prog.funcs[f]? = some fn) :
    true = Tryd.pinned.checked.prog.looks [] ∧ ∀ (j : Nat) t, fn.params[j]? = some t → Tryd.pinned.checked.prog.wantsStandIn t = false := by
  obtain rfl : f = 3 := Option.some.inj ((show Tryd.prog.funcNamed "loop.example/g00907/laws.FnSpecs" = some 3 by kernel_rfl).symm.trans hf) |>.symm
  obtain rfl : fn = Tryd.f3 := (Option.some.inj (Tryd.func3.symm.trans hfn)).symm
  refine ⟨by kernel_rfl, fun j t ht => ?_⟩
  rw [Tryd.params3] at ht
  obtain rfl : t = 22 := by simpa using Array.mem_of_getElem? ht
  exact (show Tryd.prog.wantsStandIn 22 = false by kernel_rfl)

theorem card : Rows.FnSpecsCardSaid :=
  Claim7.holds_tied_plain_at .later [] _ _ _ _ said (fun _ h => by cases h) (by kernel_rfl) (fun _ h => by cases h) fnSpecs_row_tie rfl ⟨rfl, rfl⟩ (by kernel_rfl) rfl plain (by kernel_rfl)
#print axioms card
end Go.Proofs.YtcbeoihgaccjcaaDoor.fnSpecs
