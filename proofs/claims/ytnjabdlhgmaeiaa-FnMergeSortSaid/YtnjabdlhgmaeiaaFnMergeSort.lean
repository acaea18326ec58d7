/- FnMergeSort returns true at every input. No condition. -/
import Derived.Test.YtnjabdlhgmaeiaaRows
import Derived.WalkKit
import Derived.ProofKit
import Derived.OpenShut
import Derived.ShutString
import Derived.ChangeOld
import Derived.Below
import Derived.SliceStrings
import Derived.Test.YtnjabdlhgmaeiaaMsI
import Derived.Test.YtnjabdlhgmaeiaaMsS
import Derived.Test.YtnjabdlhgmaeiaaISort
import Derived.Test.YtnjabdlhgmaeiaaDrawMs
import Derived.Test.YtnjabdlhgmaeiaaVRecs
import Derived.Test.YtnjabdlhgmaeiaaCode
namespace Go.Proofs.Ytnjabdlhgmaeiaa.fnMergeSort
open Go.ChangeShapes Go.WideShapes Go.ChangeAt Go.RowKit
open Go.ChangeMaps (open_string shut_string)
set_option linter.unusedVariables false

theorem own : ownKnob Try.prog.godebug = none := by kernel_rfl
theorem laidOut : laidOutB Try.prog = true := by kernel_rfl

def IsRow (k : IntKind) (w : World) (a : Option Addr) (len cap : Nat) (zs : List Int) : Prop :=
  (a = none ∧ len = 0 ∧ cap = 0 ∧ zs = []) ∨
  ∃ x, a = some x ∧ len ≤ cap ∧ cap ≤ maxLen ∧ zs.length = cap ∧ (∀ i, i < zs.length → w.cell? (x.add i) = some (.int k (zs.getD i 0))) ∧ ∀ n ∈ zs, (Lit.int k n).wf = true

theorem code_of {w : World} {a : Option Addr} {len cap : Nat} {zs : List Int} (h : IsRow .u8 w a len cap zs) : Code0 w a len := by
  intro k hk
  rcases h with ⟨_, rfl, _⟩ | ⟨x, rfl, hlc, _, hz, hc, hw⟩
  · omega
  · have hkz : k < zs.length := by omega
    have hd : zs.getD k 0 = zs[k] := by simp [List.getD, hkz]
    have hm := hw zs[k] (List.getElem_mem hkz)
    have hcell := hc k hkz
    rw [hd] at hcell
    have hlt := World.block_lt_of_cell? w _ hcell
    have hbk := Go.ChangeShapes.block_add x k
    have hr := bounds_u8 hm
    exact ⟨x, zs[k], rfl, by omega, hcell, hr.1, hr.2⟩

theorem vbig_no (a : Option Addr) (len cap : Nat) (w : World) (h : len ≤ 65536) : Calls Try.prog 16 #[.slice a len cap] w fun e w' => e = .returned (.bool false) ∧ w' = w := by
  go_enter Try.func16, Try.ntmps16
  have hq : decide ((65536 : Int) < (len : Int)) = false := decide_eq_false (by omega)
  go_wp2
  go_ret
  exact ⟨by rw [← hq]; rfl, rfl⟩

set_option maxRecDepth 100000 in
set_option maxHeartbeats 40000000 in
theorem walk (a : Option Addr) (len cap : Nat) (z : List Int) (w : World) (w0 : IsRow .u8 w a len cap z) :
    Calls Try.prog 5 #[.slice a len cap] w fun e w' => e = .returned (.bool true) ∧ Below w.heap.size w w' := by
  have hlen : len ≤ maxLen := by
    rcases w0 with ⟨_, rfl, _⟩ | ⟨x, _, h1, h2, _⟩ <;> omega
  unfold maxLen at hlen
  have HCODE := Lib.hid (code_of w0)
  clear w0
  by_cases hbig : 65536 < len
  · clear HCODE
    go_enter Try.func5, Try.ntmps5
    go_wp2
    go_ret
    exact ⟨rfl, Below.refl _ _⟩
  · go_enter Try.func5, Try.ntmps5
    go_wp2_with fail
    refine (vbig_no a len cap _ (by omega)).mono ?_
    rintro e w0 ⟨rfl, rfl⟩
    clear hlen hbig
    have B0 : Hid (Below w0.heap.size w0 w0) := Lib.hid (Below.refl _ _)
    go_wp2_with fail
    refine (drawMs_any a len cap _ HCODE.out).mono ?_
    rintro e w_1 ⟨gRL, cRL, li, hlRL, rfl, hcRL, hrow, hb⟩
    have RL := Lib.hid hrow
    have hnRL : li.length ≤ 1048576 := by omega
    have BN := Lib.hid (B0.out.trans (hb.mono B0.out.size))
    clear B0
    have B0 := BN
    clear BN
    clear hrow hb HCODE
    obtain ⟨M, C, okl, hM⟩ : ∃ x y b, msAll li = (x, y, b) := ⟨_, _, _, rfl⟩
    have HI := Lib.hid (fun b o c W (h : FlatAt W (.slice (some ⟨b, o, none⟩) li.length c) li.length (recs li)) => by have := implMs_any b o c li W h hnRL; rw [hM] at this; exact this)
    have HS := Lib.hid (fun b o c W (h : FlatAt W (.slice (some ⟨b, o, none⟩) li.length c) li.length (recs li)) => by have := specMs_any b o c li W h hnRL; rw [hM] at this; exact this)
    have HSO := Lib.hid (fun b o c W (h : FlatAt W (.slice (some ⟨b, o, none⟩) li.length c) li.length (recs li)) => implSort_any b o c li W h hnRL)
    have hM1 : M.length ≤ 1048576 := by have := msAll_len li; rw [hM] at this; exact this
    have HF : Hid (decide (OkR li) = okl ∧ SortedOf li M ∧ ∃ c : Nat, C = (c : Int) ∧ c ≤ 6 * li.length) := Lib.hid (by
      by_cases h : OkR li
      · rw [msAll_yes h] at hM
        simp only [Prod.mk.injEq] at hM
        obtain ⟨h1, h2, h3⟩ := hM
        exact ⟨by rw [decide_eq_true h, h3], .inl ⟨h, by rw [← h1]; exact Mg.ms_stab li⟩, _, h2.symm, Mg.ms_six h.1⟩
      · rw [msAll_no h] at hM
        simp only [Prod.mk.injEq] at hM
        obtain ⟨h1, h2, h3⟩ := hM
        exact ⟨by rw [decide_eq_false h, h3], .inr ⟨h, h1.symm⟩, 0, h2.symm, Nat.zero_le _⟩)
    clear hM
    obtain ⟨hdo, hsm, c, rfl, hc6⟩ := HF.out
    have HSM := Lib.hid hsm
    have hc6z : (c : Int) ≤ 6 * (li.length : Int) := by omega
    have hli66 : li.length ≤ 66 := by omega
    have hd6 : decide ((c : Int) ≤ 6 * (li.length : Int)) = true := decide_eq_true hc6z
    clear hsm HF
    go_wp2_with fail
    refine (HI.out _ _ _ _ (RL.out.flat hcRL)).mono ?_
    rintro e w_2 ⟨gRM, cRM, rfl, hcRM, hg, hrow, hb⟩
    simp only at hcRM hrow
    have hyRM := Lib.hid hrow
    have RLz := Lib.hid (RL.out.below hb RL.out.1)
    clear RL
    have RL := RLz
    clear RLz
    have BN := Lib.hid (B0.out.trans (hb.mono B0.out.size))
    clear B0
    have B0 := BN
    clear BN
    have RM := hyRM
    clear hyRM hrow hb hg
    go_wp2_with fail
    refine (HS.out _ _ _ _ (RL.out.flat hcRL)).mono ?_
    rintro e w_3 ⟨gRW, cRW, rfl, hcRW, hg, hrow, hb⟩
    simp only at hcRW hrow
    have hyRW := Lib.hid hrow
    have RLz := Lib.hid (RL.out.below hb RL.out.1)
    clear RL
    have RL := RLz
    clear RLz
    have RMz := Lib.hid (RM.out.below hb RM.out.1)
    clear RM
    have RM := RMz
    clear RMz
    have BN := Lib.hid (B0.out.trans (hb.mono B0.out.size))
    clear B0
    have B0 := BN
    clear BN
    have RW := hyRW
    clear hyRW hrow hb hg
    go_wp2_with fail
    refine (vRecords_yes _ _ M _ (RM.out.flat hcRM) (RW.out.flat hcRW) hM1).mono ?_
    rintro e w_4 ⟨rfl, hb⟩
    have RLz := Lib.hid (RL.out.below hb RL.out.1)
    clear RL
    have RL := RLz
    clear RLz
    have RMz := Lib.hid (RM.out.below hb RM.out.1)
    clear RM
    have RM := RMz
    clear RMz
    have RWz := Lib.hid (RW.out.below hb RW.out.1)
    clear RW
    have RW := RWz
    clear RWz
    have BN := Lib.hid (B0.out.trans (hb.mono B0.out.size))
    clear B0
    have B0 := BN
    clear BN
    clear hb
    clear RW
    clear HI HS
    go_wp2_with fail
    refine (HSO.out _ _ _ _ (RL.out.flat hcRL)).mono ?_
    rintro e w_5 ⟨gS, cS, S, rfl, hcS, hg, hrow, hof, hb⟩
    obtain rfl : S = M := SortedOf.uniq hof HSM.out
    rw [hdo]
    have hyS := Lib.hid hrow
    have RLz := Lib.hid (RL.out.below hb RL.out.1)
    clear RL
    have RL := RLz
    clear RLz
    have RMz := Lib.hid (RM.out.below hb RM.out.1)
    clear RM
    have RM := RMz
    clear RMz
    have BN := Lib.hid (B0.out.trans (hb.mono B0.out.size))
    clear B0
    have B0 := BN
    clear BN
    have RS := hyS
    clear hyS hrow hb hg hof HSO HSM hdo
    cases okl
    case false =>
      go_wp2_with fail
      refine (vRecords_yes _ _ S _ (RS.out.flat hcS) (RM.out.flat hcRM) hM1).mono ?_
      rintro e w_6 ⟨rfl, hb⟩
      have RLz := Lib.hid (RL.out.below hb RL.out.1)
      clear RL
      have RL := RLz
      clear RLz
      have RMz := Lib.hid (RM.out.below hb RM.out.1)
      clear RM
      have RM := RMz
      clear RMz
      have RSz := Lib.hid (RS.out.below hb RS.out.1)
      clear RS
      have RS := RSz
      clear RSz
      have BN := Lib.hid (B0.out.trans (hb.mono B0.out.size))
      clear B0
      have B0 := BN
      clear BN
      clear hb
      go_wp2_with fail
      go_ret
      exact ⟨rfl, B0.out⟩
    go_wp2_with fail
    refine (vRecords_yes _ _ S _ (RS.out.flat hcS) (RM.out.flat hcRM) hM1).mono ?_
    rintro e w_7 ⟨rfl, hb⟩
    have RLz := Lib.hid (RL.out.below hb RL.out.1)
    clear RL
    have RL := RLz
    clear RLz
    have RMz := Lib.hid (RM.out.below hb RM.out.1)
    clear RM
    have RM := RMz
    clear RMz
    have RSz := Lib.hid (RS.out.below hb RS.out.1)
    clear RS
    have RS := RSz
    clear RSz
    have BN := Lib.hid (B0.out.trans (hb.mono B0.out.size))
    clear B0
    have B0 := BN
    clear BN
    clear hb
    go_wp2_with fail
    go_ret
    exact ⟨rfl, B0.out⟩

set_option maxRecDepth 100000 in
theorem lifted (os : Os) (started : os.Started) (H : Type) (enc : TypeId × Value → H) :
    ReturnsInHanded {} Try.checked os 5 .any (Rows.fnMergeSortSpec.pre6 enc Try.prog Try.f5 Rows.fnMergeSortRow.domain false) (Rows.fnMergeSortSpec.post enc Try.prog Try.f5 false true false false) := by
  refine returnsInHanded_of_change (C := Try.checked) own started (by kernel_rfl) Try.func5
    (ChangeSpec.witness6 (enc := enc) (C := Try.checked) false ⟨#[], #[.slice none 0 0], []⟩ 8 (by kernel_rfl) (by kernel_rfl) (by kernel_rfl) (by kernel_rfl)) ?_
  intro W base args ds gs before hval0 hW hcnd _
  have hval : ∀ (j : Nat) t v, Try.f5.params[j]? = some t → args[j]? = some v → Value.okWide Try.prog W .any base t v := hval0
  have hW' := hW
  obtain ⟨p, q, hA0, hV, rfl, hfz, hnd⟩ := hW
  have hA : DataW.TrodAll enc Try.prog W 0 (fun _ => true) true Try.f5.params.toList args.toList ds p := hA0
  rw [Try.params5] at hA hval
  obtain ⟨v0, vs0, d0, ds0, p0, q0, hargs, rfl, rfl, h0, r0⟩ := trodAll_cons hA
  obtain ⟨rfl, rfl, rfl⟩ := trodAll_nil r0
  obtain rfl : args = #[v0] := by cases args; simp_all
  obtain ⟨rfl, rfl⟩ := trodVars_none hV
  obtain ⟨a0, len0, cap0, rfl⟩ := okWide_slice Try.underlying22 (hval 0 22 v0 rfl rfl)
  have k0 := h0
  have lt0 : ∀ x ∈ p0, x.block < W.heap.size := by obtain ⟨m, hm⟩ := k0; exact DataW.trod_lt m _ _ _ hm
  obtain ⟨z0, w0⟩ : ∃ zs, IsRow .u8 W a0 len0 cap0 zs := by
    obtain ⟨fuel, hf⟩ := h0
    rcases open_ints Try.underlying22 Try.underlying5 (by kernel_rfl) hf with ⟨hcs, _⟩ | ⟨x, l, c, zs, hcs, _, hl, hm, hz, _, hcell, hwz⟩
    · simp [Value.cells] at hcs
      obtain ⟨rfl, rfl, rfl⟩ := hcs
      exact ⟨[], .inl ⟨rfl, rfl, rfl, rfl⟩⟩
    · simp [Value.cells] at hcs
      obtain ⟨rfl, rfl, rfl⟩ := hcs
      exact ⟨zs, .inr ⟨_, rfl, hl, hm, by simpa using hz, hcell, hwz⟩⟩
  clear hA0 hval0
  refine (walk a0 len0 cap0 z0 W w0).mono fun e W' ⟨he, bel⟩ => ?_
  subst he
  exact ⟨_, rfl, _, _, _, [], _, [], hW', trodAll_mk1 (shut_bool Try.underlying4 _), (trodAll_cons_mk (Below.trod laidOut (by kernel_rfl) (of_decide_eq_true (by kernel_rfl)) k0 bel lt0) trodAll_mk0), rfl, bel.frame _, fun h => by cases h⟩

theorem over : Rows.fnMergeSortRow.holds Try.pinned (OpenSpec.ofChange Rows.fnMergeSortSpec) :=
  OpenClaim.holds_of_wide 5 Try.f5 rfl rfl rfl rfl rfl rfl rfl ⟨rfl, rfl, rfl, rfl, rfl⟩ rfl rfl rfl rfl rfl (by kernel_rfl) Try.func5 (by kernel_rfl)
    (of_decide_eq_true (by kernel_rfl)) (by unfold Func.isWrapper; first | (rw [if_pos (by decide +kernel)]; kernel_rfl) | (rw [if_neg (by decide +kernel)]; exact ⟨rfl, rfl⟩))
    (fun os started H enc _ => lifted os started H enc)

theorem proved : Rows.FnMergeSortSaid := over
#print axioms proved
end Go.Proofs.Ytnjabdlhgmaeiaa.fnMergeSort
