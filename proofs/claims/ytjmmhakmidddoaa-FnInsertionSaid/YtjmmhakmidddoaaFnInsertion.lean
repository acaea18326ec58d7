/- FnInsertion returns true at every input. No condition. -/
import Derived.Test.YtjmmhakmidddoaaRows
import Derived.WalkKit
import Derived.ProofKit
import Derived.OpenShut
import Derived.ShutString
import Derived.ChangeOld
import Derived.Below
import Derived.SliceStrings
import Derived.Test.YtjmmhakmidddoaaHead
import Derived.Test.YtjmmhakmidddoaaIInsF
import Derived.Test.YtjmmhakmidddoaaSInsF
import Derived.Test.YtjmmhakmidddoaaIBin
import Derived.Test.YtjmmhakmidddoaaSBin
import Derived.Test.YtjmmhakmidddoaaVOrd
import Derived.Test.YtjmmhakmidddoaaVInts
import Derived.Test.YtjmmhakmidddoaaDrawIns
import Derived.Test.YtjmmhakmidddoaaCode
namespace Go.Proofs.Ytjmmhakmidddoaa.fnInsertion
open Go.ChangeShapes Go.WideShapes Go.ChangeAt Go.RowKit
open Go.ChangeMaps (open_string shut_string)
set_option linter.unusedVariables false

theorem own : ownKnob Try.prog.godebug = none := by kernel_rfl
theorem laidOut : laidOutB Try.prog = true := by kernel_rfl

def IsRow (k : IntKind) (w : World) (a : Option Addr) (len cap : Nat) (zs : List Int) : Prop :=
  (a = none ∧ len = 0 ∧ cap = 0 ∧ zs = []) ∨
  ∃ x, a = some x ∧ len ≤ cap ∧ cap ≤ maxLen ∧ zs.length = cap ∧ (∀ i, i < zs.length → w.cell? (x.add i) = some (.int k (zs.getD i 0))) ∧ ∀ n ∈ zs, (Lit.int k n).wf = true

theorem code_of {w : World} {a : Option Addr} {len cap : Nat} {zs : List Int} (h : IsRow .u8 w a len cap zs) : Code0 w a len := by
  intro k hk
  rcases h with ⟨_, rfl, _⟩ | ⟨x, rfl, hlc, _, hz, hc, hw⟩
  · omega
  · have hkz : k < zs.length := by omega
    have hd : zs.getD k 0 = zs[k] := by simp [List.getD, hkz]
    have hm := hw zs[k] (List.getElem_mem hkz)
    have hcell := hc k hkz
    rw [hd] at hcell
    have hlt := World.block_lt_of_cell? w _ hcell
    have hbk := Go.ChangeShapes.block_add x k
    have hr := bounds_u8 hm
    exact ⟨x, zs[k], rfl, by omega, hcell, hr.1, hr.2⟩

theorem vbig_no (a : Option Addr) (len cap : Nat) (w : World) (h : len ≤ 65536) : Calls Try.prog 17 #[.slice a len cap] w fun e w' => e = .returned (.bool false) ∧ w' = w := by
  go_enter Try.func17, Try.ntmps17
  have hq : decide ((65536 : Int) < (len : Int)) = false := decide_eq_false (by omega)
  go_wp2
  go_ret
  exact ⟨by rw [← hq]; rfl, rfl⟩

set_option maxRecDepth 100000 in
set_option maxHeartbeats 40000000 in
theorem walk (a : Option Addr) (len cap : Nat) (z : List Int) (w : World) (w0 : IsRow .u8 w a len cap z) :
    Calls Try.prog 7 #[.slice a len cap] w fun e w' => e = .returned (.bool true) ∧ Below w.heap.size w w' := by
  have hlen : len ≤ maxLen := by
    rcases w0 with ⟨_, rfl, _⟩ | ⟨x, _, h1, h2, _⟩ <;> omega
  unfold maxLen at hlen
  have HCODE := Lib.hid (code_of w0)
  clear w0
  by_cases hbig : 65536 < len
  · clear HCODE
    go_enter Try.func7, Try.ntmps7
    go_wp2
    go_ret
    exact ⟨rfl, Below.refl _ _⟩
  · go_enter Try.func7, Try.ntmps7
    go_wp2_with fail
    refine (vbig_no a len cap _ (by omega)).mono ?_
    rintro e w0 ⟨rfl, rfl⟩
    clear hlen hbig
    have B0 : Hid (Below w0.heap.size w0 w0) := Lib.hid (Below.refl _ _)
    go_wp2_with fail
    refine (drawInsertion_any a len cap _ HCODE.out).mono ?_
    rintro e w_1 ⟨gRL, cRL, li, hlRL, rfl, hcRL, hrow, hb⟩
    have RL := Lib.hid hrow
    have hnRL : li.length ≤ 1048576 := by omega
    have BN := Lib.hid (B0.out.trans (hb.mono B0.out.size))
    clear B0
    have B0 := BN
    clear BN
    clear hrow hb HCODE
    obtain ⟨s, C, M, okl, hR⟩ : ∃ x y z b, insAll li = (x, y, z, b) := ⟨_, _, _, _, rfl⟩
    obtain ⟨t, K, fine, hB⟩ : ∃ x y b, binAll li = (x, y, b) := ⟨_, _, _, rfl⟩
    have HII := Lib.hid (fun b o c W (h : FlatAt W (.slice (some ⟨b, o, none⟩) li.length c) li.length (ints li)) => by have := implIns_any b o c li W h hnRL; rw [hR] at this; exact this)
    have HIS := Lib.hid (fun b o c W (h : FlatAt W (.slice (some ⟨b, o, none⟩) li.length c) li.length (ints li)) => by have := specIns_any b o c li W h hnRL; rw [hR] at this; exact this)
    have HBI := Lib.hid (fun b o c W (h : FlatAt W (.slice (some ⟨b, o, none⟩) li.length c) li.length (ints li)) => by have := implBin_any b o c li W h hnRL; rw [hB] at this; exact this)
    have HBS := Lib.hid (fun b o c W (h : FlatAt W (.slice (some ⟨b, o, none⟩) li.length c) li.length (ints li)) => by have := specBin_any b o c li W h hnRL; rw [hB] at this; exact this)
    have hs : s.length ≤ 1048576 := by have := insAll_len li; rw [hR] at this; exact this
    have ht : t.length ≤ 1048576 := by have := binAll_len li; rw [hB] at this; exact this
    have HYES : Hid (okl = true → fine = true ∧ OkL li ∧ s = El.srt li ∧ t = s ∧ ∃ c k : Nat, C = c ∧ K = k ∧ k ≤ 7 * li.length ∧ c ≤ 4096 ∧ (0 < li.length → li.length ≤ c + 1 ∧ 2 * c ≤ li.length * (li.length - 1)) ∧ (li.length = 0 → c = 0)) := Lib.hid (fun hk => by
      by_cases h : OkL li
      · rw [insAll_yes h] at hR
        rw [binAll_yes h] at hB
        simp only [Prod.mk.injEq] at hR hB
        obtain ⟨h1, h2, h3, h4⟩ := hR
        obtain ⟨h5, h6, h7⟩ := hB
        have hb := El.binTo_bounds li li.length h.1
        have hg := El.gapF_bounds (li, 0, 0) 1 h.1
        refine ⟨h7.symm, h, h1.symm, by rw [← h5, ← h1, El.binTo_srt h.1], _, _, h2.symm, h6.symm, hb, by have : (El.insF li).2.1 ≤ 0 + 4096 := hg.2.1; omega, fun hp => El.ins_cmps li hp, fun h0 => ?_⟩
        obtain rfl := List.length_eq_zero_iff.1 h0
        rfl
      · rw [insAll_no h] at hR; simp only [Prod.mk.injEq] at hR; rw [← hR.2.2.2] at hk; cases hk)
    have HNO : Hid (okl = false → fine = false ∧ s = [] ∧ C = 0) := Lib.hid (fun hk => by
      by_cases h : OkL li
      · rw [insAll_yes h] at hR; simp only [Prod.mk.injEq] at hR; rw [← hR.2.2.2] at hk; cases hk
      · rw [insAll_no h] at hR
        rw [binAll_no h] at hB
        simp only [Prod.mk.injEq] at hR hB
        exact ⟨hB.2.2.symm, hR.1.symm, hR.2.1.symm⟩)
    clear hR hB
    go_wp2_with fail
    refine (HII.out _ _ _ _ (RL.out.flat hcRL)).mono ?_
    rintro e w_2 ⟨gRQ, cRQ, rfl, hcRQ, hg, hrow, hb⟩
    simp only at hcRQ hrow
    have hyRQ := Lib.hid hrow
    have RLz := Lib.hid (RL.out.below hb RL.out.1)
    clear RL
    have RL := RLz
    clear RLz
    have BN := Lib.hid (B0.out.trans (hb.mono B0.out.size))
    clear B0
    have B0 := BN
    clear BN
    have RQ := hyRQ
    clear hyRQ hrow hb hg
    go_wp2_with fail
    refine (HIS.out _ _ _ _ (RL.out.flat hcRL)).mono ?_
    rintro e w_3 ⟨gRW, cRW, rfl, hcRW, hg, hrow, hb⟩
    simp only at hcRW hrow
    have hyRW := Lib.hid hrow
    have RLz := Lib.hid (RL.out.below hb RL.out.1)
    clear RL
    have RL := RLz
    clear RLz
    have RQz := Lib.hid (RQ.out.below hb RQ.out.1)
    clear RQ
    have RQ := RQz
    clear RQz
    have BN := Lib.hid (B0.out.trans (hb.mono B0.out.size))
    clear B0
    have B0 := BN
    clear BN
    have RW := hyRW
    clear hyRW hrow hb hg
    go_wp2_with fail
    refine (vInts_yes _ _ s _ (RQ.out.flat hcRQ) (RW.out.flat hcRW) hs).mono ?_
    rintro e w_4 ⟨rfl, hb⟩
    have RLz := Lib.hid (RL.out.below hb RL.out.1)
    clear RL
    have RL := RLz
    clear RLz
    have RQz := Lib.hid (RQ.out.below hb RQ.out.1)
    clear RQ
    have RQ := RQz
    clear RQz
    have RWz := Lib.hid (RW.out.below hb RW.out.1)
    clear RW
    have RW := RWz
    clear RWz
    have BN := Lib.hid (B0.out.trans (hb.mono B0.out.size))
    clear B0
    have B0 := BN
    clear BN
    clear hb
    clear RW
    go_wp2_with fail
    refine (HBI.out _ _ _ _ (RL.out.flat hcRL)).mono ?_
    rintro e w_5 ⟨gRB, cRB, rfl, hcRB, hg, hrow, hb⟩
    simp only at hcRB hrow
    have hyRB := Lib.hid hrow
    have RLz := Lib.hid (RL.out.below hb RL.out.1)
    clear RL
    have RL := RLz
    clear RLz
    have RQz := Lib.hid (RQ.out.below hb RQ.out.1)
    clear RQ
    have RQ := RQz
    clear RQz
    have BN := Lib.hid (B0.out.trans (hb.mono B0.out.size))
    clear B0
    have B0 := BN
    clear BN
    have RB := hyRB
    clear hyRB hrow hb hg
    go_wp2_with fail
    refine (HBS.out _ _ _ _ (RL.out.flat hcRL)).mono ?_
    rintro e w_6 ⟨gRV, cRV, rfl, hcRV, hg, hrow, hb⟩
    simp only at hcRV hrow
    have hyRV := Lib.hid hrow
    have RLz := Lib.hid (RL.out.below hb RL.out.1)
    clear RL
    have RL := RLz
    clear RLz
    have RQz := Lib.hid (RQ.out.below hb RQ.out.1)
    clear RQ
    have RQ := RQz
    clear RQz
    have RBz := Lib.hid (RB.out.below hb RB.out.1)
    clear RB
    have RB := RBz
    clear RBz
    have BN := Lib.hid (B0.out.trans (hb.mono B0.out.size))
    clear B0
    have B0 := BN
    clear BN
    have RV := hyRV
    clear hyRV hrow hb hg
    go_wp2_with fail
    refine (vInts_yes _ _ t _ (RB.out.flat hcRB) (RV.out.flat hcRV) ht).mono ?_
    rintro e w_7 ⟨rfl, hb⟩
    have RLz := Lib.hid (RL.out.below hb RL.out.1)
    clear RL
    have RL := RLz
    clear RLz
    have RQz := Lib.hid (RQ.out.below hb RQ.out.1)
    clear RQ
    have RQ := RQz
    clear RQz
    have RBz := Lib.hid (RB.out.below hb RB.out.1)
    clear RB
    have RB := RBz
    clear RBz
    have RVz := Lib.hid (RV.out.below hb RV.out.1)
    clear RV
    have RV := RVz
    clear RVz
    have BN := Lib.hid (B0.out.trans (hb.mono B0.out.size))
    clear B0
    have B0 := BN
    clear BN
    clear hb
    clear RV
    clear HII HIS HBI HBS
    cases okl
    case false =>
      obtain ⟨rfl, hs0, rfl⟩ := HNO.out (by first | rfl | trivial)
      have hq0 : s.length = 0 := by rw [hs0]; rfl
      clear hs0
      go_wp2_with fail
      go_ret
      exact ⟨rfl, B0.out⟩
    obtain ⟨rfl, hokl, hse, rfl, c, k, rfl, rfl, hk7, hc4, hpos, hzero⟩ := HYES.out (by first | rfl | trivial)
    have h64 := hokl.1
    have HVO := Lib.hid (fun b o c W (h : FlatAt W (.slice (some ⟨b, o, none⟩) li.length c) li.length (ints li)) => by have := vOrdered_any b o c li W h h64; rw [← hse] at this; exact this)
    have HPOS := Lib.hid hpos
    have HZERO := Lib.hid hzero
    have hk512 : k ≤ 512 := by omega
    have HK7 := Lib.hid hk7
    clear hse hokl HYES HNO hpos hzero hk7
    go_wp2_with fail
    refine (HVO.out _ _ _ _ (RL.out.flat hcRL)).mono ?_
    rintro e w_8 ⟨gRO, cRO, rfl, hcRO, hg, hrow, hb⟩
    have hyRO := Lib.hid hrow
    have RLz := Lib.hid (RL.out.below hb RL.out.1)
    clear RL
    have RL := RLz
    clear RLz
    have RQz := Lib.hid (RQ.out.below hb RQ.out.1)
    clear RQ
    have RQ := RQz
    clear RQz
    have RBz := Lib.hid (RB.out.below hb RB.out.1)
    clear RB
    have RB := RBz
    clear RBz
    have BN := Lib.hid (B0.out.trans (hb.mono B0.out.size))
    clear B0
    have B0 := BN
    clear BN
    have RO := hyRO
    clear hyRO hrow hb hg HVO
    go_wp2_with fail
    refine (vInts_yes _ _ t _ (RQ.out.flat hcRQ) (RO.out.flat hcRO) hs).mono ?_
    rintro e w_9 ⟨rfl, hb⟩
    have RLz := Lib.hid (RL.out.below hb RL.out.1)
    clear RL
    have RL := RLz
    clear RLz
    have RQz := Lib.hid (RQ.out.below hb RQ.out.1)
    clear RQ
    have RQ := RQz
    clear RQz
    have RBz := Lib.hid (RB.out.below hb RB.out.1)
    clear RB
    have RB := RBz
    clear RBz
    have ROz := Lib.hid (RO.out.below hb RO.out.1)
    clear RO
    have RO := ROz
    clear ROz
    have BN := Lib.hid (B0.out.trans (hb.mono B0.out.size))
    clear B0
    have B0 := BN
    clear BN
    clear hb
    go_wp2_with fail
    refine (vInts_yes _ _ t _ (RB.out.flat hcRB) (RQ.out.flat hcRQ) hs).mono ?_
    rintro e w_10 ⟨rfl, hb⟩
    have RLz := Lib.hid (RL.out.below hb RL.out.1)
    clear RL
    have RL := RLz
    clear RLz
    have RQz := Lib.hid (RQ.out.below hb RQ.out.1)
    clear RQ
    have RQ := RQz
    clear RQz
    have RBz := Lib.hid (RB.out.below hb RB.out.1)
    clear RB
    have RB := RBz
    clear RBz
    have ROz := Lib.hid (RO.out.below hb RO.out.1)
    clear RO
    have RO := ROz
    clear ROz
    have BN := Lib.hid (B0.out.trans (hb.mono B0.out.size))
    clear B0
    have B0 := BN
    clear BN
    clear hb
    clear RL RQ RB RO hcRL hcRQ hcRB hcRO hs ht hlRL hnRL
    generalize li.length = n at *
    cases n with
    | zero =>
      have hc0 : c = 0 := HZERO.out rfl
      have hk0 : k = 0 := by have := HK7.out; omega
      subst hc0
      subst hk0
      clear HPOS HZERO HK7
      go_wp2_with fail
      go_ret
      exact ⟨rfl, B0.out⟩
    | succ m =>
      obtain ⟨h1, h2⟩ := HPOS.out (by omega)
      rw [Nat.add_sub_cancel] at h2
      have hk7 := HK7.out
      obtain ⟨n, hn⟩ : ∃ n, n = m + 1 := ⟨_, rfl⟩
      rw [← hn] at h1 h2 hk7 h64 ⊢
      obtain ⟨nm, hnm⟩ : ∃ nm, nm = n * m := ⟨_, rfl⟩
      have hm64 : m ≤ 64 := by omega
      have hnm2 : nm ≤ 4096 := by rw [hnm]; exact Nat.mul_le_mul h64 hm64
      have hwm : IntKind.i64.wrap ((n : Int) - 1) = (m : Int) := by rw [IntKind.wrap_i64]; omega
      have hmul : (n : Int) * (m : Int) = (nm : Int) := by rw [hnm]; exact (Int.natCast_mul n m).symm
      have hn0 : ((n : Int) == 0) = false := by simp; omega
      have hn0' : ¬ n = 0 := by omega
      have hge : (m : Int) ≤ (c : Int) := by omega
      have hge' : m ≤ c := by omega
      have hle : 2 * (c : Int) ≤ (nm : Int) := by omega
      have hle' : 2 * c ≤ nm := by omega
      have hl7 : (k : Int) ≤ 7 * (n : Int) := by omega
      have hl7' : k ≤ 7 * n := by omega
      clear HPOS HZERO HK7 h1 h2 hn hnm hk7
      go_wp2_with fail
      go_ret
      exact ⟨rfl, B0.out⟩

set_option maxRecDepth 100000 in
theorem lifted (os : Os) (started : os.Started) (H : Type) (enc : TypeId × Value → H) :
    ReturnsInHanded {} Try.checked os 7 .any (Rows.fnInsertionSpec.pre6 enc Try.prog Try.f7 Rows.fnInsertionRow.domain false) (Rows.fnInsertionSpec.post enc Try.prog Try.f7 false true false false) := by
  refine returnsInHanded_of_change (C := Try.checked) own started (by kernel_rfl) Try.func7
    (ChangeSpec.witness6 (enc := enc) (C := Try.checked) false ⟨#[], #[.slice none 0 0], []⟩ 8 (by kernel_rfl) (by kernel_rfl) (by kernel_rfl) (by kernel_rfl)) ?_
  intro W base args ds gs before hval0 hW hcnd _
  have hval : ∀ (j : Nat) t v, Try.f7.params[j]? = some t → args[j]? = some v → Value.okWide Try.prog W .any base t v := hval0
  have hW' := hW
  obtain ⟨p, q, hA0, hV, rfl, hfz, hnd⟩ := hW
  have hA : DataW.TrodAll enc Try.prog W 0 (fun _ => true) true Try.f7.params.toList args.toList ds p := hA0
  rw [Try.params7] at hA hval
  obtain ⟨v0, vs0, d0, ds0, p0, q0, hargs, rfl, rfl, h0, r0⟩ := trodAll_cons hA
  obtain ⟨rfl, rfl, rfl⟩ := trodAll_nil r0
  obtain rfl : args = #[v0] := by cases args; simp_all
  obtain ⟨rfl, rfl⟩ := trodVars_none hV
  obtain ⟨a0, len0, cap0, rfl⟩ := okWide_slice Try.underlying22 (hval 0 22 v0 rfl rfl)
  have k0 := h0
  have lt0 : ∀ x ∈ p0, x.block < W.heap.size := by obtain ⟨m, hm⟩ := k0; exact DataW.trod_lt m _ _ _ hm
  obtain ⟨z0, w0⟩ : ∃ zs, IsRow .u8 W a0 len0 cap0 zs := by
    obtain ⟨fuel, hf⟩ := h0
    rcases open_ints Try.underlying22 Try.underlying5 (by kernel_rfl) hf with ⟨hcs, _⟩ | ⟨x, l, c, zs, hcs, _, hl, hm, hz, _, hcell, hwz⟩
    · simp [Value.cells] at hcs
      obtain ⟨rfl, rfl, rfl⟩ := hcs
      exact ⟨[], .inl ⟨rfl, rfl, rfl, rfl⟩⟩
    · simp [Value.cells] at hcs
      obtain ⟨rfl, rfl, rfl⟩ := hcs
      exact ⟨zs, .inr ⟨_, rfl, hl, hm, by simpa using hz, hcell, hwz⟩⟩
  clear hA0 hval0
  refine (walk a0 len0 cap0 z0 W w0).mono fun e W' ⟨he, bel⟩ => ?_
  subst he
  exact ⟨_, rfl, _, _, _, [], _, [], hW', trodAll_mk1 (shut_bool Try.underlying4 _), (trodAll_cons_mk (Below.trod laidOut (by kernel_rfl) (of_decide_eq_true (by kernel_rfl)) k0 bel lt0) trodAll_mk0), rfl, bel.frame _, fun h => by cases h⟩

theorem closed : joinedFacts Try.prog 7 Try.f7 Rows.fnInsertionSpec Rows.fnInsertionRow = true := by
  unfold joinedFacts
  rw [head_enter, head_final, head_make]
  kernel_rfl

theorem over : Rows.fnInsertionRow.holds Try.pinned (OpenSpec.ofChange Rows.fnInsertionSpec) :=
  OpenClaim.holds_of_wide 7 Try.f7 rfl rfl rfl rfl rfl rfl rfl ⟨rfl, rfl, rfl, rfl, rfl⟩ rfl rfl rfl rfl rfl (by kernel_rfl) Try.func7 closed
    (of_decide_eq_true (by kernel_rfl)) (by unfold Func.isWrapper; first | (rw [if_pos (by decide +kernel)]; kernel_rfl) | (rw [if_neg (by decide +kernel)]; exact ⟨rfl, rfl⟩))
    (fun os started H enc _ => lifted os started H enc)

theorem proved : Rows.FnInsertionSaid := over
#print axioms proved
end Go.Proofs.Ytjmmhakmidddoaa.fnInsertion
