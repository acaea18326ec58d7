/- FnGallop returns true at every input. No condition. -/
import Derived.Test.YtnjabdlhgmaeiaaRows
import Derived.WalkKit
import Derived.ProofKit
import Derived.OpenShut
import Derived.ShutString
import Derived.ChangeOld
import Derived.Below
import Derived.SliceStrings
import Derived.Test.YtnjabdlhgmaeiaaIGal
import Derived.Test.YtnjabdlhgmaeiaaSGal
import Derived.Test.YtnjabdlhgmaeiaaGalQ
import Derived.Test.YtnjabdlhgmaeiaaDrawGal
import Derived.Test.YtnjabdlhgmaeiaaCode
namespace Go.Proofs.Ytnjabdlhgmaeiaa.fnGallop
open Go.ChangeShapes Go.WideShapes Go.ChangeAt Go.RowKit
open Go.ChangeMaps (open_string shut_string)
set_option linter.unusedVariables false

theorem own : ownKnob Try.prog.godebug = none := by kernel_rfl
theorem laidOut : laidOutB Try.prog = true := by kernel_rfl

def IsRow (k : IntKind) (w : World) (a : Option Addr) (len cap : Nat) (zs : List Int) : Prop :=
  (a = none ∧ len = 0 ∧ cap = 0 ∧ zs = []) ∨
  ∃ x, a = some x ∧ len ≤ cap ∧ cap ≤ maxLen ∧ zs.length = cap ∧ (∀ i, i < zs.length → w.cell? (x.add i) = some (.int k (zs.getD i 0))) ∧ ∀ n ∈ zs, (Lit.int k n).wf = true

theorem code_of {w : World} {a : Option Addr} {len cap : Nat} {zs : List Int} (h : IsRow .u8 w a len cap zs) : Code0 w a len := by
  intro k hk
  rcases h with ⟨_, rfl, _⟩ | ⟨x, rfl, hlc, _, hz, hc, hw⟩
  · omega
  · have hkz : k < zs.length := by omega
    have hd : zs.getD k 0 = zs[k] := by simp [List.getD, hkz]
    have hm := hw zs[k] (List.getElem_mem hkz)
    have hcell := hc k hkz
    rw [hd] at hcell
    have hlt := World.block_lt_of_cell? w _ hcell
    have hbk := Go.ChangeShapes.block_add x k
    have hr := bounds_u8 hm
    exact ⟨x, zs[k], rfl, by omega, hcell, hr.1, hr.2⟩

theorem vbig_no (a : Option Addr) (len cap : Nat) (w : World) (h : len ≤ 65536) : Calls Try.prog 16 #[.slice a len cap] w fun e w' => e = .returned (.bool false) ∧ w' = w := by
  go_enter Try.func16, Try.ntmps16
  have hq : decide ((65536 : Int) < (len : Int)) = false := decide_eq_false (by omega)
  go_wp2
  go_ret
  exact ⟨by rw [← hq]; rfl, rfl⟩

set_option maxRecDepth 100000 in
set_option maxHeartbeats 40000000 in
theorem walk (a : Option Addr) (len cap : Nat) (z : List Int) (w : World) (w0 : IsRow .u8 w a len cap z) :
    Calls Try.prog 9 #[.slice a len cap] w fun e w' => e = .returned (.bool true) ∧ Below w.heap.size w w' := by
  have hlen : len ≤ maxLen := by
    rcases w0 with ⟨_, rfl, _⟩ | ⟨x, _, h1, h2, _⟩ <;> omega
  unfold maxLen at hlen
  have HCODE := Lib.hid (code_of w0)
  clear w0
  by_cases hbig : 65536 < len
  · clear HCODE
    go_enter Try.func9, Try.ntmps9
    go_wp2
    go_ret
    exact ⟨rfl, Below.refl _ _⟩
  · go_enter Try.func9, Try.ntmps9
    go_wp2_with fail
    refine (vbig_no a len cap _ (by omega)).mono ?_
    rintro e w0 ⟨rfl, rfl⟩
    clear hlen hbig
    have B0 : Hid (Below w0.heap.size w0 w0) := Lib.hid (Below.refl _ _)
    go_wp2_with fail
    refine (drawGal_any a len cap _ HCODE.out).mono ?_
    rintro e w_1 ⟨gRL, cRL, li, x, h, hlRL, hxb, hhb, rfl, hcRL, hrow, hb⟩
    have RL := Lib.hid hrow
    have hnRL : li.length ≤ 1048576 := by omega
    have BN := Lib.hid (B0.out.trans (hb.mono B0.out.size))
    clear B0
    have B0 := BN
    clear BN
    clear hrow hb HCODE
    obtain ⟨A, C, okl, hG⟩ : ∃ x1 y1 b1, Ga.galAll li x h = (x1, y1, b1) := ⟨_, _, _, rfl⟩
    have hwx : (Lit.int .i64 x).wf = true := Go.WalkArith.wf_i64 (by omega)
    have hwh : (Lit.int .i64 h).wf = true := Go.WalkArith.wf_i64 (by omega)
    have hwh2 : (Lit.int .i64 ((li.length : Int) - 1 - h)).wf = true := Go.WalkArith.wf_i64 (by omega)
    have HI := Lib.hid (fun b o c W (hf : FlatAt W (.slice (some ⟨b, o, none⟩) li.length c) li.length (ints li)) => by have := implGal_any b o c li x h W hf hnRL hwx hwh; rw [hG] at this; exact this)
    have HS := Lib.hid (fun b o c W (hf : FlatAt W (.slice (some ⟨b, o, none⟩) li.length c) li.length (ints li)) => by have := specGal_any b o c li x h W hf hnRL hwx hwh; rw [hG] at this; exact this)
    have HJ := Lib.hid (fun b o c W (hf : FlatAt W (.slice (some ⟨b, o, none⟩) li.length c) li.length (ints li)) => implGal_any b o c li x ((li.length : Int) - 1 - h) W hf hnRL hwx hwh2)
    have HG := Lib.hid hG
    clear hG hwx hwh hwh2
    go_wp2_with fail
    refine (HI.out _ _ _ _ (RL.out.flat hcRL)).mono ?_
    rintro e w_2 ⟨rfl, hb⟩
    have RLz := Lib.hid (RL.out.below hb RL.out.1)
    clear RL
    have RL := RLz
    clear RLz
    have BN := Lib.hid (B0.out.trans (hb.mono B0.out.size))
    clear B0
    have B0 := BN
    clear BN
    clear hb
    go_wp2_with fail
    refine (HS.out _ _ _ _ (RL.out.flat hcRL)).mono ?_
    rintro e w_3 ⟨rfl, hb⟩
    have RLz := Lib.hid (RL.out.below hb RL.out.1)
    clear RL
    have RL := RLz
    clear RLz
    have BN := Lib.hid (B0.out.trans (hb.mono B0.out.size))
    clear B0
    have B0 := BN
    clear BN
    clear hb
    clear HI HS
    cases okl
    case false =>
      obtain ⟨rfl, rfl⟩ := Ga.gal_no HG.out
      clear HG HJ
      go_wp2_with fail
      go_ret
      exact ⟨rfl, B0.out⟩
    obtain ⟨n0, c1, c2, hn0, e1, hc1, hc2, e2⟩ : ∃ n0 c1 c2 : Nat, n0 = Ga.cnt x li ∧ Ga.galAll li x h = ((n0 : Int), (c1 : Int), true) ∧ 1 ≤ c1 ∧ c1 ≤ 14 ∧ Ga.galAll li x ((li.length : Int) - 1 - h) = ((n0 : Int), (c2 : Int), true) := by
      obtain ⟨c1, c2, e1, h1, h2, e2⟩ := Ga.gal_facts (Ga.gal_ok HG.out)
      exact ⟨_, c1, c2, rfl, e1, h1, h2, e2⟩
    have ho := Ga.gal_ok HG.out
    have h64 := ho.1.1
    have hh0 := ho.2.2.2.1
    have hh1 := ho.2.2.2.2
    rw [HG.out] at e1
    simp only [Prod.mk.injEq] at e1
    obtain ⟨rfl, rfl, _⟩ := e1
    rw [e2] at HJ
    have HN0 := Lib.hid hn0
    have hc14 : (c1 : Int) ≤ 14 := by omega
    have hc1z : (1 : Int) ≤ (c1 : Int) := by omega
    clear e2 hn0 ho HG
    go_wp2_with fail
    go_loopw [12, 13] (fun nv iv wr => ∃ (k m : Nat), k ≤ li.length ∧ m ≤ k ∧ iv = .int .i64 k ∧ nv = .int .i64 m ∧ m = Ga.cnt x (li.take k) ∧ Below (w_3).heap.size w_3 wr) (fun _ iv _ => li.length - (intOf iv).toNat)
    case atStart => exact ⟨0, 0, Nat.zero_le _, Nat.le_refl _, rfl, rfl, by simp [Ga.cnt], Below.refl _ _⟩
    case round =>
      obtain ⟨k, m, hk, hmk, rfl, rfl, hm, hb⟩ := hrel
      have HM := Lib.hid hm
      have HBB := Lib.hid hb
      clear hm hb
      by_cases hlt : k < li.length
      · have hcell := ((RL.out.below HBB.out RL.out.1).2 _ _ (ints_at (P.at_getD hlt))).1
        have hkz : (k : Int) < li.length := by omega
        by_cases hxy : li.getD k 0 < x
        · have HE := Lib.hid (Ga.cnt_yes hlt HM.out hxy)
          have hdec : decide (li.getD k 0 < x) = true := decide_eq_true hxy
          generalize li.getD k 0 = y at hcell hdec hxy
          go_wp2_with fail
          go_roundw
          case rel => exact ⟨k + 1, m + 1, by omega, by omega, by go_num, by go_num, HE.out, HBB.out⟩
          case measure => simp [intOf]; omega
        · have HE := Lib.hid (Ga.cnt_no hlt HM.out hxy)
          have hdec : decide (li.getD k 0 < x) = false := decide_eq_false hxy
          generalize li.getD k 0 = y at hcell hdec hxy
          go_wp2_with fail
          go_roundw
          case rel => exact ⟨k + 1, m, by omega, by omega, by go_num, rfl, HE.out, HBB.out⟩
          case measure => simp [intOf]; omega
      · obtain rfl : k = li.length := by omega
        have hmn : m = n0 := by rw [HM.out, HN0.out, List.take_length]
        subst hmn
        have HBE := Lib.hid (B0.out.trans (HBB.out.mono B0.out.size))
        have RE := Lib.hid (RL.out.below HBB.out RL.out.1)
        have hwl : IntKind.i64.wrap ((li.length : Int) - 1) = (li.length : Int) - 1 := by rw [IntKind.wrap_i64]; omega
        have hwl2 : IntKind.i64.wrap ((li.length : Int) - 1 - h) = (li.length : Int) - 1 - h := by rw [IntKind.wrap_i64]; omega
        clear HM HN0 HBB RL
        go_wp2_with fail
        refine (HJ.out _ _ _ _ (RE.out.flat hcRL)).mono ?_
        rintro e wq ⟨rfl, hb⟩
        have HBF := Lib.hid (HBE.out.trans (hb.mono HBE.out.size))
        clear hb HJ HBE RE
        go_wp2_with fail
        go_ret
        exact ⟨rfl, HBF.out⟩

set_option maxRecDepth 100000 in
theorem lifted (os : Os) (started : os.Started) (H : Type) (enc : TypeId × Value → H) :
    ReturnsInHanded {} Try.checked os 9 .any (Rows.fnGallopSpec.pre6 enc Try.prog Try.f9 Rows.fnGallopRow.domain false) (Rows.fnGallopSpec.post enc Try.prog Try.f9 false true false false) := by
  refine returnsInHanded_of_change (C := Try.checked) own started (by kernel_rfl) Try.func9
    (ChangeSpec.witness6 (enc := enc) (C := Try.checked) false ⟨#[], #[.slice none 0 0], []⟩ 8 (by kernel_rfl) (by kernel_rfl) (by kernel_rfl) (by kernel_rfl)) ?_
  intro W base args ds gs before hval0 hW hcnd _
  have hval : ∀ (j : Nat) t v, Try.f9.params[j]? = some t → args[j]? = some v → Value.okWide Try.prog W .any base t v := hval0
  have hW' := hW
  obtain ⟨p, q, hA0, hV, rfl, hfz, hnd⟩ := hW
  have hA : DataW.TrodAll enc Try.prog W 0 (fun _ => true) true Try.f9.params.toList args.toList ds p := hA0
  rw [Try.params9] at hA hval
  obtain ⟨v0, vs0, d0, ds0, p0, q0, hargs, rfl, rfl, h0, r0⟩ := trodAll_cons hA
  obtain ⟨rfl, rfl, rfl⟩ := trodAll_nil r0
  obtain rfl : args = #[v0] := by cases args; simp_all
  obtain ⟨rfl, rfl⟩ := trodVars_none hV
  obtain ⟨a0, len0, cap0, rfl⟩ := okWide_slice Try.underlying22 (hval 0 22 v0 rfl rfl)
  have k0 := h0
  have lt0 : ∀ x ∈ p0, x.block < W.heap.size := by obtain ⟨m, hm⟩ := k0; exact DataW.trod_lt m _ _ _ hm
  obtain ⟨z0, w0⟩ : ∃ zs, IsRow .u8 W a0 len0 cap0 zs := by
    obtain ⟨fuel, hf⟩ := h0
    rcases open_ints Try.underlying22 Try.underlying5 (by kernel_rfl) hf with ⟨hcs, _⟩ | ⟨x, l, c, zs, hcs, _, hl, hm, hz, _, hcell, hwz⟩
    · simp [Value.cells] at hcs
      obtain ⟨rfl, rfl, rfl⟩ := hcs
      exact ⟨[], .inl ⟨rfl, rfl, rfl, rfl⟩⟩
    · simp [Value.cells] at hcs
      obtain ⟨rfl, rfl, rfl⟩ := hcs
      exact ⟨zs, .inr ⟨_, rfl, hl, hm, by simpa using hz, hcell, hwz⟩⟩
  clear hA0 hval0
  refine (walk a0 len0 cap0 z0 W w0).mono fun e W' ⟨he, bel⟩ => ?_
  subst he
  exact ⟨_, rfl, _, _, _, [], _, [], hW', trodAll_mk1 (shut_bool Try.underlying4 _), (trodAll_cons_mk (Below.trod laidOut (by kernel_rfl) (of_decide_eq_true (by kernel_rfl)) k0 bel lt0) trodAll_mk0), rfl, bel.frame _, fun h => by cases h⟩

theorem over : Rows.fnGallopRow.holds Try.pinned (OpenSpec.ofChange Rows.fnGallopSpec) :=
  OpenClaim.holds_of_wide 9 Try.f9 rfl rfl rfl rfl rfl rfl rfl ⟨rfl, rfl, rfl, rfl, rfl⟩ rfl rfl rfl rfl rfl (by kernel_rfl) Try.func9 (by kernel_rfl)
    (of_decide_eq_true (by kernel_rfl)) (by unfold Func.isWrapper; first | (rw [if_pos (by decide +kernel)]; kernel_rfl) | (rw [if_neg (by decide +kernel)]; exact ⟨rfl, rfl⟩))
    (fun os started H enc _ => lifted os started H enc)

theorem proved : Rows.FnGallopSaid := over
#print axioms proved
end Go.Proofs.Ytnjabdlhgmaeiaa.fnGallop
