/- FnSorting returns true at every input. No condition. -/
import Derived.Test.YtckogbmaahenhaaRows
import Derived.WalkKit
import Derived.ProofKit
import Derived.OpenShut
import Derived.ShutString
import Derived.ChangeOld
import Derived.Below
import Derived.SliceStrings
import Derived.Test.YtckogbmaahenhaaHead
import Derived.Test.YtckogbmaahenhaaISortQ
import Derived.Test.YtckogbmaahenhaaSSort
import Derived.Test.YtckogbmaahenhaaVInts
import Derived.Test.YtckogbmaahenhaaDrawSo
import Derived.Test.YtckogbmaahenhaaIComp
import Derived.Test.YtckogbmaahenhaaCode
namespace Go.Proofs.Ytckogbmaahenhaa.fnSorting
open Go.ChangeShapes Go.WideShapes Go.ChangeAt Go.RowKit
open Go.ChangeMaps (open_string shut_string)
set_option linter.unusedVariables false

theorem own : ownKnob Try.prog.godebug = none := by kernel_rfl
theorem laidOut : laidOutB Try.prog = true := by kernel_rfl

def IsRow (k : IntKind) (w : World) (a : Option Addr) (len cap : Nat) (zs : List Int) : Prop :=
  (a = none ∧ len = 0 ∧ cap = 0 ∧ zs = []) ∨
  ∃ x, a = some x ∧ len ≤ cap ∧ cap ≤ maxLen ∧ zs.length = cap ∧ (∀ i, i < zs.length → w.cell? (x.add i) = some (.int k (zs.getD i 0))) ∧ ∀ n ∈ zs, (Lit.int k n).wf = true

theorem code_of {w : World} {a : Option Addr} {len cap : Nat} {zs : List Int} (h : IsRow .u8 w a len cap zs) : Code0 w a len := by
  intro k hk
  rcases h with ⟨_, rfl, _⟩ | ⟨x, rfl, hlc, _, hz, hc, hw⟩
  · omega
  · have hkz : k < zs.length := by omega
    have hd : zs.getD k 0 = zs[k] := by simp [List.getD, hkz]
    have hm := hw zs[k] (List.getElem_mem hkz)
    have hcell := hc k hkz
    rw [hd] at hcell
    have hlt := World.block_lt_of_cell? w _ hcell
    have hbk := Go.ChangeShapes.block_add x k
    have hr := bounds_u8 hm
    exact ⟨x, zs[k], rfl, by omega, hcell, hr.1, hr.2⟩

theorem vbig_no (a : Option Addr) (len cap : Nat) (w : World) (h : len ≤ 65536) : Calls Try.prog 20 #[.slice a len cap] w fun e w' => e = .returned (.bool false) ∧ w' = w := by
  go_enter Try.func20, Try.ntmps20
  have hq : decide ((65536 : Int) < (len : Int)) = false := decide_eq_false (by omega)
  go_wp2
  go_ret
  exact ⟨by rw [← hq]; rfl, rfl⟩

set_option maxRecDepth 100000 in
set_option maxHeartbeats 40000000 in
theorem walk (a : Option Addr) (len cap : Nat) (z : List Int) (w : World) (w0 : IsRow .u8 w a len cap z) :
    Calls Try.prog 6 #[.slice a len cap] w fun e w' => e = .returned (.bool true) ∧ Below w.heap.size w w' := by
  have hlen : len ≤ maxLen := by
    rcases w0 with ⟨_, rfl, _⟩ | ⟨x, _, h1, h2, _⟩ <;> omega
  unfold maxLen at hlen
  have HCODE := Lib.hid (code_of w0)
  clear w0
  by_cases hbig : 65536 < len
  · clear HCODE
    go_enter Try.func6, Try.ntmps6
    go_wp2
    go_ret
    exact ⟨rfl, Below.refl _ _⟩
  · go_enter Try.func6, Try.ntmps6
    go_wp2_with fail
    refine (vbig_no a len cap _ (by omega)).mono ?_
    rintro e w0 ⟨rfl, rfl⟩
    clear hlen hbig
    have B0 : Hid (Below w0.heap.size w0 w0) := Lib.hid (Below.refl _ _)
    have HCODE0 := HCODE
    go_wp2_with fail
    refine (drawSort_any a len cap _ HCODE.out).mono ?_
    rintro e w_1 ⟨aFL, cFL, li, hlFL, rfl, hf1, hb⟩
    have hnFL : li.length ≤ 1048576 := by omega
    have BN := Lib.hid (B0.out.trans (hb.mono B0.out.size))
    clear B0
    have B0 := BN
    clear BN
    have FL := Lib.hid hf1
    clear hf1 hb HCODE HCODE0
    obtain ⟨p, okl, hP⟩ : ∃ x b, sortF li = (x, b) := ⟨_, _, rfl⟩
    have HII := Lib.hid (fun v W (h : FlatAt W v li.length (ints li)) => by have := implSortP_any v li W h hnFL; rw [hP] at this; exact this)
    have HIS := Lib.hid (fun v W (h : FlatAt W v li.length (ints li)) => by have := specSortP_any v li W h hnFL; rw [hP] at this; exact this)
    have hdo : decide (OkL li) = okl := by
      by_cases h : OkL li
      · rw [decide_eq_true h]; have := hP; rw [sortF_yes h] at this; exact (Prod.mk.inj this).2
      · rw [decide_eq_false h]; have := hP; rw [sortF_no h] at this; exact (Prod.mk.inj this).2
    have HVL := Lib.hid (fun v W (h : FlatAt W v li.length (ints li)) => by have := implValidList_any v li W h hnFL; rw [hdo] at this; exact this)
    have hp : p.length ≤ 1048576 := by have := sortF_len li; rw [hP] at this; exact this
    have HOKP : Hid (okl = true → OkL li ∧ p = sortTo li li.length) := Lib.hid (fun hk => by
      rw [hk] at hdo hP
      have h := of_decide_eq_true hdo
      rw [sortF_yes h] at hP
      exact ⟨h, (Prod.mk.inj hP).1.symm⟩)
    have HNOK : Hid (okl = false → p = []) := Lib.hid (fun hk => by
      rw [hk] at hdo hP
      have h := of_decide_eq_false hdo
      rw [sortF_no h] at hP
      exact (Prod.mk.inj hP).1.symm)
    clear hP hdo
    go_wp2_with fail
    refine (HII.out _ _ FL.out).mono ?_
    rintro e w_2 ⟨gRQ, cRQ, rfl, hcRQ, hg, hrow, hb⟩
    simp only at hcRQ hrow
    have hyRQ := Lib.hid hrow
    have FLz := Lib.hid (FL.out.below hb)
    clear FL
    have FL := FLz
    clear FLz
    have BN := Lib.hid (B0.out.trans (hb.mono B0.out.size))
    clear B0
    have B0 := BN
    clear BN
    have RQ := hyRQ
    clear hyRQ hrow hb hg
    go_wp2_with fail
    refine (HIS.out _ _ FL.out).mono ?_
    rintro e w_3 ⟨gRW, cRW, rfl, hcRW, hg, hrow, hb⟩
    simp only at hcRW hrow
    have hyRW := Lib.hid hrow
    have FLz := Lib.hid (FL.out.below hb)
    clear FL
    have FL := FLz
    clear FLz
    have RQz := Lib.hid (RQ.out.below hb RQ.out.1)
    clear RQ
    have RQ := RQz
    clear RQz
    have BN := Lib.hid (B0.out.trans (hb.mono B0.out.size))
    clear B0
    have B0 := BN
    clear BN
    have RW := hyRW
    clear hyRW hrow hb hg
    go_wp2_with fail
    refine (vInts_yes _ _ p _ (RQ.out.flat hcRQ) (RW.out.flat hcRW) hp).mono ?_
    rintro e w_4 ⟨rfl, hb⟩
    have FLz := Lib.hid (FL.out.below hb)
    clear FL
    have FL := FLz
    clear FLz
    have RQz := Lib.hid (RQ.out.below hb RQ.out.1)
    clear RQ
    have RQ := RQz
    clear RQz
    have RWz := Lib.hid (RW.out.below hb RW.out.1)
    clear RW
    have RW := RWz
    clear RWz
    have BN := Lib.hid (B0.out.trans (hb.mono B0.out.size))
    clear B0
    have B0 := BN
    clear BN
    clear hb
    clear RW
    go_wp2_with fail
    refine (HVL.out _ _ FL.out).mono ?_
    rintro e w_5 ⟨rfl, hb⟩
    have FLz := Lib.hid (FL.out.below hb)
    clear FL
    have FL := FLz
    clear FLz
    have RQz := Lib.hid (RQ.out.below hb RQ.out.1)
    clear RQ
    have RQ := RQz
    clear RQz
    have BN := Lib.hid (B0.out.trans (hb.mono B0.out.size))
    clear B0
    have B0 := BN
    clear BN
    clear hb
    clear HII HIS HVL
    cases okl
    case false =>
      have hq0 : p.length = 0 := by rw [HNOK.out (by first | rfl | trivial)]; rfl
      go_wp2_with fail
      go_ret
      exact ⟨rfl, B0.out⟩
    obtain ⟨hokl, hpe⟩ := HOKP.out (by first | rfl | trivial)
    have hap := sort_apply hokl
    rw [← hpe] at hap
    obtain ⟨s, hs⟩ : ∃ s, s = P.pickAt li p := ⟨_, rfl⟩
    rw [← hs] at hap
    have HAI := Lib.hid (fun v v' W (h : FlatAt W v p.length (ints p)) (h' : FlatAt W v' li.length (ints li)) => by have := implApply_any v p v' li W h hp h' hnFL; rw [hap] at this; exact this)
    have hpl : p.length = li.length := by rw [hpe]; exact sortTo_length li li.length
    have hsl : s.length = li.length := by rw [hs, P.pickAt_length, hpl]
    have HNX : Hid (∀ k, k + 1 < li.length → ∃ p0 p1 s0 s1 : Int, p[k]? = some p0 ∧ p[k + 1]? = some p1 ∧ s[k]? = some s0 ∧ s[k + 1]? = some s1 ∧ (s0 < s1 ∨ (s0 = s1 ∧ p0 < p1))) := Lib.hid (fun k hk => by
      have := sort_next hk
      rw [← hpe, ← hs] at this
      exact this)
    have hl64 : li.length ≤ 64 := hokl.1
    have HPL := Lib.hid hpl
    have HSL := Lib.hid hsl
    clear hokl hpe hap hs HOKP HNOK hpl hsl
    go_wp2_with fail
    refine (HAI.out _ _ _ (RQ.out.flat hcRQ) FL.out).mono ?_
    rintro e w_6 ⟨gRS, cRS, rfl, hcRS, hg, hrow, hb⟩
    simp only at hcRS hrow
    have hyRS := Lib.hid hrow
    have FLz := Lib.hid (FL.out.below hb)
    clear FL
    have FL := FLz
    clear FLz
    have RQz := Lib.hid (RQ.out.below hb RQ.out.1)
    clear RQ
    have RQ := RQz
    clear RQz
    have BN := Lib.hid (B0.out.trans (hb.mono B0.out.size))
    clear B0
    have B0 := BN
    clear BN
    have RS := hyRS
    clear hyRS hrow hb hg
    rw [HSL.out] at hcRS ⊢
    clear HAI
    go_wp2_with fail
    go_loopw [10] (fun iv wr => ∃ (k m : Nat), k ≤ li.length ∧ iv = .int .i64 k ∧ wr = (w_6).drewN m) (fun iv _ => li.length - (intOf iv).toNat)
    case atStart => exact ⟨0, 0, Nat.zero_le _, rfl, rfl⟩
    case round =>
      obtain ⟨k, m', hk, rfl, rfl⟩ := hrel
      have hwk : IntKind.i64.wrap ((k : Int) + 1) = ((k + 1 : Nat) : Int) := by rw [IntKind.wrap_i64]; omega
      by_cases hlt : k + 1 < li.length
      · obtain ⟨p0, p1, s0, s1, h1, h2, h3, h4, hor⟩ := HNX.out k hlt
        have hc1 := (RQ.out.2 _ _ (ints_at h1)).1
        have hc2 := (RQ.out.2 _ _ (ints_at h2)).1
        have hc3 := (RS.out.2 _ _ (ints_at h3)).1
        have hc4 := (RS.out.2 _ _ (ints_at h4)).1
        have hpl := HPL.out
        have hkz : (k : Int) < li.length := by omega
        have hk1z : ((k + 1 : Nat) : Int) < li.length := by omega
        have hkp : (k : Int) < p.length := by omega
        have hk1p : ((k + 1 : Nat) : Int) < p.length := by omega
        have hgt : decide (s1 < s0) = false := decide_eq_false (by omega)
        clear h1 h2 h3 h4 hpl
        by_cases he : s0 = s1
        · subst he
          have hgp : decide (p1 < p0) = false := decide_eq_false (by omega)
          clear hor
          go_wp2_with fail
          go_quiet (fail)
          go_wp2_with fail
          go_roundw
          case rel => exact ⟨k + 1, m' + nq, by omega, by go_num, by trivial⟩
          case measure => simp [intOf]; omega
        · have hbe : (s0 == s1) = false := by simpa using he
          clear hor
          go_wp2_with fail
          go_quiet (fail)
          go_wp2_with fail
          go_roundw
          case rel => exact ⟨k + 1, m' + nq, by omega, by go_num, by trivial⟩
          case measure => simp [intOf]; omega
      · have hlz : ¬ ((k + 1 : Nat) : Int) < li.length := by omega
        go_wp2_with fail
        go_ret
        exact ⟨rfl, B0.out.trans ⟨rfl, rfl, rfl, Nat.le_refl _, fun _ _ => rfl⟩⟩

set_option maxRecDepth 100000 in
theorem lifted (os : Os) (started : os.Started) (H : Type) (enc : TypeId × Value → H) :
    ReturnsInHanded {} Try.checked os 6 .any (Rows.fnSortingSpec.pre6 enc Try.prog Try.f6 Rows.fnSortingRow.domain false) (Rows.fnSortingSpec.post enc Try.prog Try.f6 false true false false) := by
  refine returnsInHanded_of_change (C := Try.checked) own started (by kernel_rfl) Try.func6
    (ChangeSpec.witness6 (enc := enc) (C := Try.checked) false ⟨#[], #[.slice none 0 0], []⟩ 8 (by kernel_rfl) (by kernel_rfl) (by kernel_rfl) (by kernel_rfl)) ?_
  intro W base args ds gs before hval0 hW hcnd _
  have hval : ∀ (j : Nat) t v, Try.f6.params[j]? = some t → args[j]? = some v → Value.okWide Try.prog W .any base t v := hval0
  have hW' := hW
  obtain ⟨p, q, hA0, hV, rfl, hfz, hnd⟩ := hW
  have hA : DataW.TrodAll enc Try.prog W 0 (fun _ => true) true Try.f6.params.toList args.toList ds p := hA0
  rw [Try.params6] at hA hval
  obtain ⟨v0, vs0, d0, ds0, p0, q0, hargs, rfl, rfl, h0, r0⟩ := trodAll_cons hA
  obtain ⟨rfl, rfl, rfl⟩ := trodAll_nil r0
  obtain rfl : args = #[v0] := by cases args; simp_all
  obtain ⟨rfl, rfl⟩ := trodVars_none hV
  obtain ⟨a0, len0, cap0, rfl⟩ := okWide_slice Try.underlying22 (hval 0 22 v0 rfl rfl)
  have k0 := h0
  have lt0 : ∀ x ∈ p0, x.block < W.heap.size := by obtain ⟨m, hm⟩ := k0; exact DataW.trod_lt m _ _ _ hm
  obtain ⟨z0, w0⟩ : ∃ zs, IsRow .u8 W a0 len0 cap0 zs := by
    obtain ⟨fuel, hf⟩ := h0
    rcases open_ints Try.underlying22 Try.underlying5 (by kernel_rfl) hf with ⟨hcs, _⟩ | ⟨x, l, c, zs, hcs, _, hl, hm, hz, _, hcell, hwz⟩
    · simp [Value.cells] at hcs
      obtain ⟨rfl, rfl, rfl⟩ := hcs
      exact ⟨[], .inl ⟨rfl, rfl, rfl, rfl⟩⟩
    · simp [Value.cells] at hcs
      obtain ⟨rfl, rfl, rfl⟩ := hcs
      exact ⟨zs, .inr ⟨_, rfl, hl, hm, by simpa using hz, hcell, hwz⟩⟩
  clear hA0 hval0
  refine (walk a0 len0 cap0 z0 W w0).mono fun e W' ⟨he, bel⟩ => ?_
  subst he
  exact ⟨_, rfl, _, _, _, [], _, [], hW', trodAll_mk1 (shut_bool Try.underlying4 _), (trodAll_cons_mk (Below.trod laidOut (by kernel_rfl) (of_decide_eq_true (by kernel_rfl)) k0 bel lt0) trodAll_mk0), rfl, bel.frame _, fun h => by cases h⟩

theorem closed : joinedFacts Try.prog 6 Try.f6 Rows.fnSortingSpec Rows.fnSortingRow = true := by
  unfold joinedFacts
  rw [head_enter, head_final, head_make]
  kernel_rfl

theorem over : Rows.fnSortingRow.holds Try.pinned (OpenSpec.ofChange Rows.fnSortingSpec) :=
  OpenClaim.holds_of_wide 6 Try.f6 rfl rfl rfl rfl rfl rfl rfl ⟨rfl, rfl, rfl, rfl, rfl⟩ rfl rfl rfl rfl rfl (by kernel_rfl) Try.func6 closed
    (of_decide_eq_true (by kernel_rfl)) (by unfold Func.isWrapper; first | (rw [if_pos (by decide +kernel)]; kernel_rfl) | (rw [if_neg (by decide +kernel)]; exact ⟨rfl, rfl⟩))
    (fun os started H enc _ => lifted os started H enc)

theorem proved : Rows.FnSortingSaid := over
#print axioms proved
end Go.Proofs.Ytckogbmaahenhaa.fnSorting
