/- FnMerge returns true at every input. No condition. -/
import Derived.Test.YtnjabdlhgmaeiaaRows
import Derived.WalkKit
import Derived.ProofKit
import Derived.OpenShut
import Derived.ShutString
import Derived.ChangeOld
import Derived.Below
import Derived.SliceStrings
import Derived.Test.YtnjabdlhgmaeiaaIMergeS
import Derived.Test.YtnjabdlhgmaeiaaSMergeS
import Derived.Test.YtnjabdlhgmaeiaaISort
import Derived.Test.YtnjabdlhgmaeiaaDrawMg
import Derived.Test.YtnjabdlhgmaeiaaVRecs
import Derived.Test.YtnjabdlhgmaeiaaCode
namespace Go.Proofs.Ytnjabdlhgmaeiaa.fnMerge
open Go.ChangeShapes Go.WideShapes Go.ChangeAt Go.RowKit
open Go.ChangeMaps (open_string shut_string)
set_option linter.unusedVariables false

theorem own : ownKnob Try.prog.godebug = none := by kernel_rfl
theorem laidOut : laidOutB Try.prog = true := by kernel_rfl

def IsRow (k : IntKind) (w : World) (a : Option Addr) (len cap : Nat) (zs : List Int) : Prop :=
  (a = none ∧ len = 0 ∧ cap = 0 ∧ zs = []) ∨
  ∃ x, a = some x ∧ len ≤ cap ∧ cap ≤ maxLen ∧ zs.length = cap ∧ (∀ i, i < zs.length → w.cell? (x.add i) = some (.int k (zs.getD i 0))) ∧ ∀ n ∈ zs, (Lit.int k n).wf = true

attribute [local go_sem ↓ high] builtin_append_held

theorem code_of {w : World} {a : Option Addr} {len cap : Nat} {zs : List Int} (h : IsRow .u8 w a len cap zs) : Code0 w a len := by
  intro k hk
  rcases h with ⟨_, rfl, _⟩ | ⟨x, rfl, hlc, _, hz, hc, hw⟩
  · omega
  · have hkz : k < zs.length := by omega
    have hd : zs.getD k 0 = zs[k] := by simp [List.getD, hkz]
    have hm := hw zs[k] (List.getElem_mem hkz)
    have hcell := hc k hkz
    rw [hd] at hcell
    have hlt := World.block_lt_of_cell? w _ hcell
    have hbk := Go.ChangeShapes.block_add x k
    have hr := bounds_u8 hm
    exact ⟨x, zs[k], rfl, by omega, hcell, hr.1, hr.2⟩

theorem vbig_no (a : Option Addr) (len cap : Nat) (w : World) (h : len ≤ 65536) : Calls Try.prog 16 #[.slice a len cap] w fun e w' => e = .returned (.bool false) ∧ w' = w := by
  go_enter Try.func16, Try.ntmps16
  have hq : decide ((65536 : Int) < (len : Int)) = false := decide_eq_false (by omega)
  go_wp2
  go_ret
  exact ⟨by rw [← hq]; rfl, rfl⟩

set_option maxRecDepth 100000 in
set_option maxHeartbeats 40000000 in
theorem walk (a : Option Addr) (len cap : Nat) (z : List Int) (w : World) (w0 : IsRow .u8 w a len cap z) :
    Calls Try.prog 4 #[.slice a len cap] w fun e w' => e = .returned (.bool true) ∧ Below w.heap.size w w' := by
  have hlen : len ≤ maxLen := by
    rcases w0 with ⟨_, rfl, _⟩ | ⟨x, _, h1, h2, _⟩ <;> omega
  unfold maxLen at hlen
  have HCODE := Lib.hid (code_of w0)
  clear w0
  by_cases hbig : 65536 < len
  · clear HCODE
    go_enter Try.func4, Try.ntmps4
    go_wp2
    go_ret
    exact ⟨rfl, Below.refl _ _⟩
  · go_enter Try.func4, Try.ntmps4
    go_wp2_with fail
    refine (vbig_no a len cap _ (by omega)).mono ?_
    rintro e w0 ⟨rfl, rfl⟩
    clear hlen hbig
    have B0 : Hid (Below w0.heap.size w0 w0) := Lib.hid (Below.refl _ _)
    go_wp2_with fail
    refine (drawMg_any a len cap _ HCODE.out).mono ?_
    rintro e w_1 ⟨gRA, cRA, la, gRB, cRB, lb, hlRA, hlRB, rfl, hcRA, hcRB, hrow, hrow2, hb⟩
    have RA := Lib.hid hrow
    have RB := Lib.hid hrow2
    have hnRA : la.length ≤ 1048576 := by omega
    have hnRB : lb.length ≤ 1048576 := by omega
    have BN := Lib.hid (B0.out.trans (hb.mono B0.out.size))
    clear B0
    have B0 := BN
    clear BN
    clear hrow hrow2 hb HCODE
    obtain ⟨M, C, okl, hM⟩ : ∃ x y b, mergeAll la lb = (x, y, b) := ⟨_, _, _, rfl⟩
    have HI := Lib.hid (fun b0 o0 c0 b1 o1 c1 W (h0 : FlatAt W (.slice (some ⟨b0, o0, none⟩) la.length c0) la.length (recs la)) (h1 : FlatAt W (.slice (some ⟨b1, o1, none⟩) lb.length c1) lb.length (recs lb)) => by have := implMergeS_any b0 o0 c0 la b1 o1 c1 lb W h0 hnRA h1 hnRB; rw [hM] at this; exact this)
    have HS := Lib.hid (fun b0 o0 c0 b1 o1 c1 W (h0 : FlatAt W (.slice (some ⟨b0, o0, none⟩) la.length c0) la.length (recs la)) (h1 : FlatAt W (.slice (some ⟨b1, o1, none⟩) lb.length c1) lb.length (recs lb)) => by have := specMergeS_any b0 o0 c0 la b1 o1 c1 lb W h0 hnRA h1 hnRB; rw [hM] at this; exact this)
    have hM1 : M.length ≤ 1048576 := by have := mergeAll_len la lb; rw [hM] at this; exact this
    have HYES : Hid (okl = true → OkR (la ++ lb) ∧ Stab.Of (·.1) (la ++ lb) M ∧ ∃ c : Nat, C = (c : Int) ∧ c ≤ M.length ∧ (0 < M.length → c < M.length)) := Lib.hid (fun hk => by
      by_cases h : OkM la lb
      · rw [mergeAll_yes h] at hM
        simp only [Prod.mk.injEq] at hM
        obtain ⟨h1, h2, _⟩ := hM
        have hc := Mg.mg_count la lb
        have hl := Mg.mg_length la lb
        rw [h1] at hl
        refine ⟨⟨by rw [List.length_append]; exact h.2.2, fun p hp => ?_⟩, by rw [← h1]; exact Mg.mg_stab (Mg.up_of_asc h.1.2) (Mg.up_of_asc h.2.1.2), _, h2.symm, by rw [hl]; exact hc.1, fun h0 => by rw [hl] at h0 ⊢; exact hc.2 h0⟩
        rcases List.mem_append.1 hp with hp | hp
        · exact h.1.1.2 p hp
        · exact h.2.1.1.2 p hp
      · rw [mergeAll_no h] at hM; simp only [Prod.mk.injEq] at hM; rw [← hM.2.2] at hk; cases hk)
    have HNO : Hid (okl = false → M = []) := Lib.hid (fun hk => by
      by_cases h : OkM la lb
      · rw [mergeAll_yes h] at hM; simp only [Prod.mk.injEq] at hM; rw [← hM.2.2] at hk; cases hk
      · rw [mergeAll_no h] at hM; simp only [Prod.mk.injEq] at hM; exact hM.1.symm)
    clear hM
    go_wp2_with fail
    refine (HI.out _ _ _ _ _ _ _ (RA.out.flat hcRA) (RB.out.flat hcRB)).mono ?_
    rintro e w_2 ⟨gRM, cRM, rfl, hcRM, hg, hrow, hb⟩
    simp only at hcRM hrow
    have hyRM := Lib.hid hrow
    have RAz := Lib.hid (RA.out.below hb RA.out.1)
    clear RA
    have RA := RAz
    clear RAz
    have RBz := Lib.hid (RB.out.below hb RB.out.1)
    clear RB
    have RB := RBz
    clear RBz
    have BN := Lib.hid (B0.out.trans (hb.mono B0.out.size))
    clear B0
    have B0 := BN
    clear BN
    have RM := hyRM
    clear hyRM hrow hb hg
    go_wp2_with fail
    refine (HS.out _ _ _ _ _ _ _ (RA.out.flat hcRA) (RB.out.flat hcRB)).mono ?_
    rintro e w_3 ⟨gRW, cRW, rfl, hcRW, hg, hrow, hb⟩
    simp only at hcRW hrow
    have hyRW := Lib.hid hrow
    have RAz := Lib.hid (RA.out.below hb RA.out.1)
    clear RA
    have RA := RAz
    clear RAz
    have RBz := Lib.hid (RB.out.below hb RB.out.1)
    clear RB
    have RB := RBz
    clear RBz
    have RMz := Lib.hid (RM.out.below hb RM.out.1)
    clear RM
    have RM := RMz
    clear RMz
    have BN := Lib.hid (B0.out.trans (hb.mono B0.out.size))
    clear B0
    have B0 := BN
    clear BN
    have RW := hyRW
    clear hyRW hrow hb hg
    go_wp2_with fail
    refine (vRecords_yes _ _ M _ (RM.out.flat hcRM) (RW.out.flat hcRW) hM1).mono ?_
    rintro e w_4 ⟨rfl, hb⟩
    have RAz := Lib.hid (RA.out.below hb RA.out.1)
    clear RA
    have RA := RAz
    clear RAz
    have RBz := Lib.hid (RB.out.below hb RB.out.1)
    clear RB
    have RB := RBz
    clear RBz
    have RMz := Lib.hid (RM.out.below hb RM.out.1)
    clear RM
    have RM := RMz
    clear RMz
    have RWz := Lib.hid (RW.out.below hb RW.out.1)
    clear RW
    have RW := RWz
    clear RWz
    have BN := Lib.hid (B0.out.trans (hb.mono B0.out.size))
    clear B0
    have B0 := BN
    clear BN
    clear hb
    clear RW
    clear HI HS
    cases okl
    case false =>
      have hq0 : M.length = 0 := by rw [HNO.out (by first | rfl | trivial)]; rfl
      clear HYES HNO
      go_wp2_with fail
      go_ret
      exact ⟨rfl, B0.out⟩
    obtain ⟨hokr, hst, c, rfl, hcm, hcp⟩ := HYES.out (by first | rfl | trivial)
    clear HYES HNO
    have hst0 := HeldC.start w_4 w_4.heap.size (Nat.le_refl _)
    have hb0 : Below w_4.heap.size w_4 (w_4.alloc (.cells #[] 50)) := (Below.refl _ _).alloc (Nat.le_refl _) _
    obtain ⟨va, wa, hrun1, hha, hba⟩ := appendManyC w_4.heap.size _ [] gRA 0 cRA la _ hst0 hb0.size (by simp; omega) (fun j u hu => by rw [Nat.zero_add]; exact (hb0.cell (p := ⟨gRA, j, none⟩) RA.out.1).trans (RA.out.2 j u hu).1)
    have hb1 := hb0.trans hba
    obtain ⟨vb, wb, hrun2, hhb, hbb⟩ := appendManyC w_4.heap.size va ([] ++ la) gRB 0 cRB lb _ hha hb1.size (by simp; omega) (fun j u hu => by rw [Nat.zero_add]; exact (hb1.cell (p := ⟨gRB, j, none⟩) RB.out.1).trans (RB.out.2 j u hu).1)
    obtain ⟨J, hJ⟩ : ∃ J, J = la ++ lb := ⟨_, rfl⟩
    rw [List.nil_append, ← hJ] at hhb
    rw [← hJ] at hokr hst
    have hJl : J.length ≤ 132 := by rw [hJ, List.length_append]; omega
    clear hJ
    have hb := hb1.trans hbb
    obtain ⟨gs, cs, rfl, hgs, hcs, hrow⟩ := hhb.row
    have RAz := Lib.hid (RA.out.below hb RA.out.1)
    clear RA
    have RA := RAz
    clear RAz
    have RBz := Lib.hid (RB.out.below hb RB.out.1)
    clear RB
    have RB := RBz
    clear RBz
    have RMz := Lib.hid (RM.out.below hb RM.out.1)
    clear RM
    have RM := RMz
    clear RMz
    have BN := Lib.hid (B0.out.trans (hb.mono B0.out.size))
    clear B0
    have B0 := BN
    clear BN
    have RX := Lib.hid hrow
    clear hrow hgs hhb hbb hb hb1 hha hba hb0 hst0
    have HSO := Lib.hid (fun W (h : FlatAt W (.slice (some ⟨gs, 0, none⟩) J.length cs) J.length (recs J)) => implSort_any gs 0 cs J W h (by omega))
    have HOK := Lib.hid hokr
    have HST := Lib.hid hst
    have HCP := Lib.hid hcp
    clear hokr hst hcp
    go_wp2_with fail
    refine (HSO.out _ (RX.out.flat hcs)).mono ?_
    rintro e w_5 ⟨gS, cS, S, rfl, hcS, hg, hrow, hof, hb⟩
    have hSM : S = M := by
      rcases hof with ⟨_, h⟩ | ⟨h, _⟩
      · exact Stab.Of.uniq h HST.out
      · exact absurd HOK.out h
    subst hSM
    rw [decide_eq_true HOK.out]
    have hyS := Lib.hid hrow
    have RAz := Lib.hid (RA.out.below hb RA.out.1)
    clear RA
    have RA := RAz
    clear RAz
    have RBz := Lib.hid (RB.out.below hb RB.out.1)
    clear RB
    have RB := RBz
    clear RBz
    have RMz := Lib.hid (RM.out.below hb RM.out.1)
    clear RM
    have RM := RMz
    clear RMz
    have RXz := Lib.hid (RX.out.below hb RX.out.1)
    clear RX
    have RX := RXz
    clear RXz
    have BN := Lib.hid (B0.out.trans (hb.mono B0.out.size))
    clear B0
    have B0 := BN
    clear BN
    have RS := hyS
    clear hyS hrow hb hg hof HSO HST HOK
    go_wp2_with fail
    refine (vRecords_yes _ _ S _ (RS.out.flat hcS) (RM.out.flat hcRM) hM1).mono ?_
    rintro e w_6 ⟨rfl, hb⟩
    have RAz := Lib.hid (RA.out.below hb RA.out.1)
    clear RA
    have RA := RAz
    clear RAz
    have RBz := Lib.hid (RB.out.below hb RB.out.1)
    clear RB
    have RB := RBz
    clear RBz
    have RMz := Lib.hid (RM.out.below hb RM.out.1)
    clear RM
    have RM := RMz
    clear RMz
    have RXz := Lib.hid (RX.out.below hb RX.out.1)
    clear RX
    have RX := RXz
    clear RXz
    have RSz := Lib.hid (RS.out.below hb RS.out.1)
    clear RS
    have RS := RSz
    clear RSz
    have BN := Lib.hid (B0.out.trans (hb.mono B0.out.size))
    clear B0
    have B0 := BN
    clear BN
    clear hb
    clear RA RB RX RS RM hcRA hcRB hcs hcS hcRM hlRA hlRB hnRA hnRB hM1
    generalize S.length = n at *
    by_cases hn0 : n = 0
    · subst hn0
      have hc0 : c = 0 := by omega
      subst hc0
      clear HCP
      go_wp2_with fail
      go_ret
      exact ⟨rfl, B0.out⟩
    · have hlt : c < n := HCP.out (by omega)
      have hltz : (c : Int) < (n : Int) := by omega
      have hdec : decide ((c : Int) < (n : Int)) = true := decide_eq_true hltz
      clear HCP
      go_wp2_with fail
      go_ret
      exact ⟨rfl, B0.out⟩

set_option maxRecDepth 100000 in
theorem lifted (os : Os) (started : os.Started) (H : Type) (enc : TypeId × Value → H) :
    ReturnsInHanded {} Try.checked os 4 .any (Rows.fnMergeSpec.pre6 enc Try.prog Try.f4 Rows.fnMergeRow.domain false) (Rows.fnMergeSpec.post enc Try.prog Try.f4 false true false false) := by
  refine returnsInHanded_of_change (C := Try.checked) own started (by kernel_rfl) Try.func4
    (ChangeSpec.witness6 (enc := enc) (C := Try.checked) false ⟨#[], #[.slice none 0 0], []⟩ 8 (by kernel_rfl) (by kernel_rfl) (by kernel_rfl) (by kernel_rfl)) ?_
  intro W base args ds gs before hval0 hW hcnd _
  have hval : ∀ (j : Nat) t v, Try.f4.params[j]? = some t → args[j]? = some v → Value.okWide Try.prog W .any base t v := hval0
  have hW' := hW
  obtain ⟨p, q, hA0, hV, rfl, hfz, hnd⟩ := hW
  have hA : DataW.TrodAll enc Try.prog W 0 (fun _ => true) true Try.f4.params.toList args.toList ds p := hA0
  rw [Try.params4] at hA hval
  obtain ⟨v0, vs0, d0, ds0, p0, q0, hargs, rfl, rfl, h0, r0⟩ := trodAll_cons hA
  obtain ⟨rfl, rfl, rfl⟩ := trodAll_nil r0
  obtain rfl : args = #[v0] := by cases args; simp_all
  obtain ⟨rfl, rfl⟩ := trodVars_none hV
  obtain ⟨a0, len0, cap0, rfl⟩ := okWide_slice Try.underlying22 (hval 0 22 v0 rfl rfl)
  have k0 := h0
  have lt0 : ∀ x ∈ p0, x.block < W.heap.size := by obtain ⟨m, hm⟩ := k0; exact DataW.trod_lt m _ _ _ hm
  obtain ⟨z0, w0⟩ : ∃ zs, IsRow .u8 W a0 len0 cap0 zs := by
    obtain ⟨fuel, hf⟩ := h0
    rcases open_ints Try.underlying22 Try.underlying5 (by kernel_rfl) hf with ⟨hcs, _⟩ | ⟨x, l, c, zs, hcs, _, hl, hm, hz, _, hcell, hwz⟩
    · simp [Value.cells] at hcs
      obtain ⟨rfl, rfl, rfl⟩ := hcs
      exact ⟨[], .inl ⟨rfl, rfl, rfl, rfl⟩⟩
    · simp [Value.cells] at hcs
      obtain ⟨rfl, rfl, rfl⟩ := hcs
      exact ⟨zs, .inr ⟨_, rfl, hl, hm, by simpa using hz, hcell, hwz⟩⟩
  clear hA0 hval0
  refine (walk a0 len0 cap0 z0 W w0).mono fun e W' ⟨he, bel⟩ => ?_
  subst he
  exact ⟨_, rfl, _, _, _, [], _, [], hW', trodAll_mk1 (shut_bool Try.underlying4 _), (trodAll_cons_mk (Below.trod laidOut (by kernel_rfl) (of_decide_eq_true (by kernel_rfl)) k0 bel lt0) trodAll_mk0), rfl, bel.frame _, fun h => by cases h⟩

theorem over : Rows.fnMergeRow.holds Try.pinned (OpenSpec.ofChange Rows.fnMergeSpec) :=
  OpenClaim.holds_of_wide 4 Try.f4 rfl rfl rfl rfl rfl rfl rfl ⟨rfl, rfl, rfl, rfl, rfl⟩ rfl rfl rfl rfl rfl (by kernel_rfl) Try.func4 (by kernel_rfl)
    (of_decide_eq_true (by kernel_rfl)) (by unfold Func.isWrapper; first | (rw [if_pos (by decide +kernel)]; kernel_rfl) | (rw [if_neg (by decide +kernel)]; exact ⟨rfl, rfl⟩))
    (fun os started H enc _ => lifted os started H enc)

theorem proved : Rows.FnMergeSaid := over
#print axioms proved
end Go.Proofs.Ytnjabdlhgmaeiaa.fnMerge
