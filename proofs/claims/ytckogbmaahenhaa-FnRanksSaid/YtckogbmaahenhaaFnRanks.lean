/- FnRanks returns true at every input. No condition. -/
import Derived.Test.YtckogbmaahenhaaRows
import Derived.WalkKit
import Derived.ProofKit
import Derived.OpenShut
import Derived.ShutString
import Derived.ChangeOld
import Derived.Below
import Derived.SliceStrings
import Derived.Test.YtckogbmaahenhaaHead
import Derived.Test.YtckogbmaahenhaaSRank
import Derived.Test.YtckogbmaahenhaaIRank
import Derived.Test.YtckogbmaahenhaaINext
import Derived.Test.YtckogbmaahenhaaSNext
import Derived.Test.YtckogbmaahenhaaIUnrB
import Derived.Test.YtckogbmaahenhaaSUnr
import Derived.Test.YtckogbmaahenhaaVInts
import Derived.Test.YtckogbmaahenhaaDrawQA
import Derived.Test.YtckogbmaahenhaaDrawU
import Derived.Test.YtckogbmaahenhaaCode
namespace Go.Proofs.Ytckogbmaahenhaa.fnRanks
open Go.ChangeShapes Go.WideShapes Go.ChangeAt Go.RowKit
open Go.ChangeMaps (open_string shut_string)
set_option linter.unusedVariables false

theorem own : ownKnob Try.prog.godebug = none := by kernel_rfl
theorem laidOut : laidOutB Try.prog = true := by kernel_rfl

def IsRow (k : IntKind) (w : World) (a : Option Addr) (len cap : Nat) (zs : List Int) : Prop :=
  (a = none ∧ len = 0 ∧ cap = 0 ∧ zs = []) ∨
  ∃ x, a = some x ∧ len ≤ cap ∧ cap ≤ maxLen ∧ zs.length = cap ∧ (∀ i, i < zs.length → w.cell? (x.add i) = some (.int k (zs.getD i 0))) ∧ ∀ n ∈ zs, (Lit.int k n).wf = true

theorem code_of {w : World} {a : Option Addr} {len cap : Nat} {zs : List Int} (h : IsRow .u8 w a len cap zs) : Code0 w a len := by
  intro k hk
  rcases h with ⟨_, rfl, _⟩ | ⟨x, rfl, hlc, _, hz, hc, hw⟩
  · omega
  · have hkz : k < zs.length := by omega
    have hd : zs.getD k 0 = zs[k] := by simp [List.getD, hkz]
    have hm := hw zs[k] (List.getElem_mem hkz)
    have hcell := hc k hkz
    rw [hd] at hcell
    have hlt := World.block_lt_of_cell? w _ hcell
    have hbk := Go.ChangeShapes.block_add x k
    have hr := bounds_u8 hm
    exact ⟨x, zs[k], rfl, by omega, hcell, hr.1, hr.2⟩

theorem vbig_no (a : Option Addr) (len cap : Nat) (w : World) (h : len ≤ 65536) : Calls Try.prog 20 #[.slice a len cap] w fun e w' => e = .returned (.bool false) ∧ w' = w := by
  go_enter Try.func20, Try.ntmps20
  have hq : decide ((65536 : Int) < (len : Int)) = false := decide_eq_false (by omega)
  go_wp2
  go_ret
  exact ⟨by rw [← hq]; rfl, rfl⟩

set_option maxRecDepth 100000 in
set_option maxHeartbeats 40000000 in
theorem walk (a : Option Addr) (len cap : Nat) (z : List Int) (w : World) (w0 : IsRow .u8 w a len cap z) :
    Calls Try.prog 7 #[.slice a len cap] w fun e w' => e = .returned (.bool true) ∧ Below w.heap.size w w' := by
  have hlen : len ≤ maxLen := by
    rcases w0 with ⟨_, rfl, _⟩ | ⟨x, _, h1, h2, _⟩ <;> omega
  unfold maxLen at hlen
  have HCODE := Lib.hid (code_of w0)
  clear w0
  by_cases hbig : 65536 < len
  · clear HCODE
    go_enter Try.func7, Try.ntmps7
    go_wp2
    go_ret
    exact ⟨rfl, Below.refl _ _⟩
  · go_enter Try.func7, Try.ntmps7
    go_wp2_with fail
    refine (vbig_no a len cap _ (by omega)).mono ?_
    rintro e w0 ⟨rfl, rfl⟩
    clear hlen hbig
    have B0 : Hid (Below w0.heap.size w0 w0) := Lib.hid (Below.refl _ _)
    have HCODE0 := HCODE
    go_wp2_with fail
    refine (drawRank_any a len cap _ HCODE.out).mono ?_
    rintro e w_1 ⟨gRP, cRP, p, hlRP, rfl, hcRP, hg, hrow, hb⟩
    have RP := Lib.hid hrow
    have hnRP : p.length ≤ 1048576 := by omega
    have BN := Lib.hid (B0.out.trans (hb.mono B0.out.size))
    clear B0
    have B0 := BN
    clear BN
    have HCODEz := Lib.hid (HCODE.out.below hb)
    clear HCODE
    have HCODE := HCODEz
    clear HCODEz
    clear hrow hb hg
    obtain ⟨rk, okp, hRp⟩ : ∃ r b, P.rankF p = (r, b) := ⟨_, _, rfl⟩
    obtain ⟨nx, more, hNp⟩ : ∃ r b, P.nextF p = (r, b) := ⟨_, _, rfl⟩
    have HRI := Lib.hid (fun v W (h : FlatAt W v p.length (ints p)) => by have := implRank_any v p W h hnRP; rw [hRp] at this; exact this)
    have HRS := Lib.hid (fun v W (h : FlatAt W v p.length (ints p)) => by have := specRank_any v p W h hnRP; rw [hRp] at this; exact this)
    have HNI := Lib.hid (fun b o c W (h : FlatAt W (.slice (some ⟨b, o, none⟩) p.length c) p.length (ints p)) => by have := implNext_any b o c p W h hnRP; rw [hNp] at this; exact this)
    have HNS := Lib.hid (fun b o c W (h : FlatAt W (.slice (some ⟨b, o, none⟩) p.length c) p.length (ints p)) => by have := specNext_any b o c p W h hnRP; rw [hNp] at this; exact this)
    have HRP := Lib.hid hRp
    have HNP := Lib.hid hNp
    have hnx : nx.length ≤ 1048576 := by have := P.nextF_len p; rw [hNp] at this; exact this
    have HP : Hid (okp = true → P.OkP p ∧ p.length ≤ 10 ∧ 0 ≤ rk ∧ rk < 3628800) := Lib.hid (fun hk => by
      by_cases h : P.OkP p ∧ p.length ≤ 10
      · have h1 := hRp
        rw [P.rankF_yes h] at h1
        have h2 := (Prod.mk.inj h1).1
        have h3 := P.horn_lt p.length (P.later p) (fun i _ => P.later_le p i) p.length (Nat.le_refl _)
        have h4 := fact_le h.2
        exact ⟨h.1, h.2, by omega, by omega⟩
      · have h1 := hRp
        rw [P.rankF_no h] at h1
        have h2 := (Prod.mk.inj h1).2
        rw [← h2] at hk; cases hk)
    have HM : Hid (okp = true → more = true → (P.rankF nx).1 = rk + 1) := Lib.hid (fun hk hm => by
      obtain ⟨h1, h2, _⟩ := HP.out hk
      by_cases h : P.OkP p ∧ 0 < P.piv p (p.length - 1)
      · have h3 := P.next_rank h1 h2 h.2
        rw [hNp, hRp] at h3
        exact h3
      · have h3 := hNp
        rw [P.nextF_no h] at h3
        have h4 := (Prod.mk.inj h3).2
        rw [← h4] at hm; cases hm)
    have HUP : Hid (okp = true → P.unrF p.length rk = (p, true)) := Lib.hid (fun hk => by
      obtain ⟨h1, h2, _⟩ := HP.out hk
      have h3 := P.unr_rank h1 h2
      rw [hRp] at h3
      exact h3)
    clear hRp hNp
    go_wp2_with fail
    refine (HRI.out _ _ (RP.out.flat hcRP)).mono ?_
    rintro e w_2 ⟨rfl, hb⟩
    have RPz := Lib.hid (RP.out.below hb RP.out.1)
    clear RP
    have RP := RPz
    clear RPz
    have BN := Lib.hid (B0.out.trans (hb.mono B0.out.size))
    clear B0
    have B0 := BN
    clear BN
    clear hb
    go_wp2_with fail
    refine (HRS.out _ _ (RP.out.flat hcRP)).mono ?_
    rintro e w_3 ⟨rfl, hb⟩
    have RPz := Lib.hid (RP.out.below hb RP.out.1)
    clear RP
    have RP := RPz
    clear RPz
    have BN := Lib.hid (B0.out.trans (hb.mono B0.out.size))
    clear B0
    have B0 := BN
    clear BN
    clear hb
    go_wp2_with fail
    refine (HNI.out _ _ _ _ (RP.out.flat hcRP)).mono ?_
    rintro e w_4 ⟨gRN, cRN, rfl, hcRN, hg, hrow, hb⟩
    simp only at hcRN hrow
    have hyRN := Lib.hid hrow
    have RPz := Lib.hid (RP.out.below hb RP.out.1)
    clear RP
    have RP := RPz
    clear RPz
    have BN := Lib.hid (B0.out.trans (hb.mono B0.out.size))
    clear B0
    have B0 := BN
    clear BN
    have RN := hyRN
    clear hyRN hrow hb hg
    go_wp2_with fail
    refine (HNS.out _ _ _ _ (RP.out.flat hcRP)).mono ?_
    rintro e w_5 ⟨gRM, cRM, rfl, hcRM, hg, hrow, hb⟩
    simp only at hcRM hrow
    have hyRM := Lib.hid hrow
    have RPz := Lib.hid (RP.out.below hb RP.out.1)
    clear RP
    have RP := RPz
    clear RPz
    have RNz := Lib.hid (RN.out.below hb RN.out.1)
    clear RN
    have RN := RNz
    clear RNz
    have BN := Lib.hid (B0.out.trans (hb.mono B0.out.size))
    clear B0
    have B0 := BN
    clear BN
    have RM := hyRM
    clear hyRM hrow hb hg
    go_wp2_with fail
    refine (vInts_yes _ _ nx _ (RN.out.flat hcRN) (RM.out.flat hcRM) hnx).mono ?_
    rintro e w_6 ⟨rfl, hb⟩
    have RPz := Lib.hid (RP.out.below hb RP.out.1)
    clear RP
    have RP := RPz
    clear RPz
    have RNz := Lib.hid (RN.out.below hb RN.out.1)
    clear RN
    have RN := RNz
    clear RNz
    have RMz := Lib.hid (RM.out.below hb RM.out.1)
    clear RM
    have RM := RMz
    clear RMz
    have BN := Lib.hid (B0.out.trans (hb.mono B0.out.size))
    clear B0
    have B0 := BN
    clear BN
    clear hb
    clear RM
    clear HRS HNI HNS
    have HCODEz := Lib.hid (HCODE0.out.below B0.out)
    clear HCODE HCODE0
    have HCODE := HCODEz
    clear HCODEz
    go_wp2_with fail
    refine (drawUnr_any a len cap _ HCODE.out).mono ?_
    rintro e w_7 ⟨x, y, hx0, hx1, hy0, hy1, rfl, hb⟩
    have RPz := Lib.hid (RP.out.below hb RP.out.1)
    clear RP
    have RP := RPz
    clear RPz
    have RNz := Lib.hid (RN.out.below hb RN.out.1)
    clear RN
    have RN := RNz
    clear RNz
    have BN := Lib.hid (B0.out.trans (hb.mono B0.out.size))
    clear B0
    have B0 := BN
    clear BN
    clear hb HCODE
    have hwf : (Lit.int .i64 y).wf = true := by
      have e1 : IntKind.i64.max = 9223372036854775807 := by kernel_rfl
      have e2 : IntKind.i64.min = -9223372036854775808 := by kernel_rfl
      simp only [Lit.wf, Bool.and_eq_true, decide_eq_true_eq]; omega
    obtain ⟨q, fine, hUq⟩ : ∃ r b, P.unrF x y = (r, b) := ⟨_, _, rfl⟩
    have HUI := Lib.hid (fun W => by have := implUnr_any x y W hwf; rw [hUq] at this; exact this)
    have HUS := Lib.hid (fun W => by have := specUnr_any x y W hwf; rw [hUq] at this; exact this)
    have hq : q.length ≤ 1048576 := by have := P.unrF_len x y; rw [hUq] at this; exact this
    have HQ : Hid (fine = true → P.rankF q = (y, true)) := Lib.hid (fun hk => by
      by_cases h : 0 ≤ x ∧ x ≤ 10 ∧ 0 ≤ y ∧ y < P.fact x.toNat
      · obtain ⟨n, rfl⟩ : ∃ n : Nat, x = n := ⟨x.toNat, by omega⟩
        obtain ⟨r, rfl⟩ : ∃ r : Nat, y = r := ⟨y.toNat, by omega⟩
        have h1 := P.rank_unr (n := n) (r := r) (by omega) (by have := h.2.2.2; simpa using this)
        rw [hUq] at h1
        exact h1
      · have h1 := hUq
        rw [P.unrF_no h] at h1
        have h2 := (Prod.mk.inj h1).2
        rw [← h2] at hk; cases hk)
    have HRQ := Lib.hid (fun v W (h : FlatAt W v q.length (ints q)) => implRank_any v q W h hq)
    have hrk1 : okp = true → IntKind.i64.wrap (rk + 1) = rk + 1 := fun hk => by obtain ⟨_, _, h1, h2⟩ := HP.out hk; rw [IntKind.wrap_i64]; omega
    have HWK := Lib.hid hrk1
    clear hUq hwf hx0 hx1 hy0 hy1 hrk1
    go_wp2_with fail
    refine (HUI.out _).mono ?_
    rintro e w_8 ⟨gRQ, cRQ, rfl, hcRQ, hg, hrow, hb⟩
    simp only at hcRQ hrow
    have hyRQ := Lib.hid hrow
    have RPz := Lib.hid (RP.out.below hb RP.out.1)
    clear RP
    have RP := RPz
    clear RPz
    have RNz := Lib.hid (RN.out.below hb RN.out.1)
    clear RN
    have RN := RNz
    clear RNz
    have BN := Lib.hid (B0.out.trans (hb.mono B0.out.size))
    clear B0
    have B0 := BN
    clear BN
    have RQ := hyRQ
    clear hyRQ hrow hb hg
    go_wp2_with fail
    refine (HUS.out _).mono ?_
    rintro e w_9 ⟨gRQ2, cRQ2, rfl, hcRQ2, hg, hrow, hb⟩
    simp only at hcRQ2 hrow
    have hyRQ2 := Lib.hid hrow
    have RPz := Lib.hid (RP.out.below hb RP.out.1)
    clear RP
    have RP := RPz
    clear RPz
    have RNz := Lib.hid (RN.out.below hb RN.out.1)
    clear RN
    have RN := RNz
    clear RNz
    have RQz := Lib.hid (RQ.out.below hb RQ.out.1)
    clear RQ
    have RQ := RQz
    clear RQz
    have BN := Lib.hid (B0.out.trans (hb.mono B0.out.size))
    clear B0
    have B0 := BN
    clear BN
    have RQ2 := hyRQ2
    clear hyRQ2 hrow hb hg
    go_wp2_with fail
    refine (vInts_yes _ _ q _ (RQ.out.flat hcRQ) (RQ2.out.flat hcRQ2) hq).mono ?_
    rintro e w_10 ⟨rfl, hb⟩
    have RPz := Lib.hid (RP.out.below hb RP.out.1)
    clear RP
    have RP := RPz
    clear RPz
    have RNz := Lib.hid (RN.out.below hb RN.out.1)
    clear RN
    have RN := RNz
    clear RNz
    have RQz := Lib.hid (RQ.out.below hb RQ.out.1)
    clear RQ
    have RQ := RQz
    clear RQz
    have RQ2z := Lib.hid (RQ2.out.below hb RQ2.out.1)
    clear RQ2
    have RQ2 := RQ2z
    clear RQ2z
    have BN := Lib.hid (B0.out.trans (hb.mono B0.out.size))
    clear B0
    have B0 := BN
    clear BN
    clear hb
    clear RQ2
    clear HUI HUS
    cases fine
    case false =>
      clear HQ HRQ
      cases okp
      case false =>
        go_wp2_with fail
        go_ret
        exact ⟨rfl, B0.out⟩
      obtain ⟨hok, h10, hrk0, hrk1⟩ := HP.out (by first | rfl | trivial)
      have HUB := Lib.hid (fun W => by have := implUnr_any (p.length : Int) rk W (by
          have e1 : IntKind.i64.max = 9223372036854775807 := by kernel_rfl
          have e2 : IntKind.i64.min = -9223372036854775808 := by kernel_rfl
          simp only [Lit.wf, Bool.and_eq_true, decide_eq_true_eq]; omega); rw [HUP.out (by first | rfl | trivial)] at this; exact this)
      have hw1 := HWK.out (by first | rfl | trivial)
      clear hok h10 hrk0 hrk1 HWK
      go_wp2_with fail
      refine (HUB.out _).mono ?_
      rintro e w_11 ⟨gRK, cRK, rfl, hcRK, hg, hrow, hb⟩
      simp only at hcRK hrow
      have hyRK := Lib.hid hrow
      have RPz := Lib.hid (RP.out.below hb RP.out.1)
      clear RP
      have RP := RPz
      clear RPz
      have RNz := Lib.hid (RN.out.below hb RN.out.1)
      clear RN
      have RN := RNz
      clear RNz
      have RQz := Lib.hid (RQ.out.below hb RQ.out.1)
      clear RQ
      have RQ := RQz
      clear RQz
      have BN := Lib.hid (B0.out.trans (hb.mono B0.out.size))
      clear B0
      have B0 := BN
      clear BN
      have RK := hyRK
      clear hyRK hrow hb hg
      go_wp2_with fail
      refine (vInts_yes _ _ p _ (RK.out.flat hcRK) (RP.out.flat hcRP) hnRP).mono ?_
      rintro e w_12 ⟨rfl, hb⟩
      have RPz := Lib.hid (RP.out.below hb RP.out.1)
      clear RP
      have RP := RPz
      clear RPz
      have RNz := Lib.hid (RN.out.below hb RN.out.1)
      clear RN
      have RN := RNz
      clear RNz
      have RQz := Lib.hid (RQ.out.below hb RQ.out.1)
      clear RQ
      have RQ := RQz
      clear RQz
      have RKz := Lib.hid (RK.out.below hb RK.out.1)
      clear RK
      have RK := RKz
      clear RKz
      have BN := Lib.hid (B0.out.trans (hb.mono B0.out.size))
      clear B0
      have B0 := BN
      clear BN
      clear hb
      clear RK
      clear HUB
      cases more
      case false =>
        go_wp2_with fail
        go_ret
        exact ⟨rfl, B0.out⟩
      have HRN := Lib.hid (fun v W (h : FlatAt W v nx.length (ints nx)) => implRank_any v nx W h hnx)
      have hmm := HM.out (by first | rfl | trivial) (by first | rfl | trivial)
      obtain ⟨r2, b2, hr2⟩ : ∃ r b, P.rankF nx = (r, b) := ⟨_, _, rfl⟩
      rw [hr2] at HRN hmm
      simp only at hmm
      have HMM := Lib.hid hmm
      clear hr2 hmm HM
      go_wp2_with fail
      refine (HRN.out _ _ (RN.out.flat hcRN)).mono ?_
      rintro e w_13 ⟨rfl, hb⟩
      have RPz := Lib.hid (RP.out.below hb RP.out.1)
      clear RP
      have RP := RPz
      clear RPz
      have RNz := Lib.hid (RN.out.below hb RN.out.1)
      clear RN
      have RN := RNz
      clear RNz
      have RQz := Lib.hid (RQ.out.below hb RQ.out.1)
      clear RQ
      have RQ := RQz
      clear RQz
      have BN := Lib.hid (B0.out.trans (hb.mono B0.out.size))
      clear B0
      have B0 := BN
      clear BN
      clear hb
      have hdd : decide (r2 = rk + 1) = true := decide_eq_true HMM.out
      have hbb : (r2 == rk + 1) = true := by rw [HMM.out]; simp
      go_wp2_with fail
      go_ret
      exact ⟨by simp [HMM.out], B0.out⟩
    have hqq := HQ.out (by first | rfl | trivial)
    have HRQ2 := HRQ
    rw [hqq] at HRQ2
    clear HRQ HQ hqq
    go_wp2_with fail
    refine (HRQ2.out _ _ (RQ.out.flat hcRQ)).mono ?_
    rintro e w_14 ⟨rfl, hb⟩
    have RPz := Lib.hid (RP.out.below hb RP.out.1)
    clear RP
    have RP := RPz
    clear RPz
    have RNz := Lib.hid (RN.out.below hb RN.out.1)
    clear RN
    have RN := RNz
    clear RNz
    have RQz := Lib.hid (RQ.out.below hb RQ.out.1)
    clear RQ
    have RQ := RQz
    clear RQz
    have BN := Lib.hid (B0.out.trans (hb.mono B0.out.size))
    clear B0
    have B0 := BN
    clear BN
    clear hb
    cases okp
    case false =>
      go_wp2_with fail
      go_ret
      exact ⟨rfl, B0.out⟩
    obtain ⟨hok, h10, hrk0, hrk1⟩ := HP.out (by first | rfl | trivial)
    have HUB := Lib.hid (fun W => by have := implUnr_any (p.length : Int) rk W (by
        have e1 : IntKind.i64.max = 9223372036854775807 := by kernel_rfl
        have e2 : IntKind.i64.min = -9223372036854775808 := by kernel_rfl
        simp only [Lit.wf, Bool.and_eq_true, decide_eq_true_eq]; omega); rw [HUP.out (by first | rfl | trivial)] at this; exact this)
    have hw1 := HWK.out (by first | rfl | trivial)
    clear hok h10 hrk0 hrk1 HWK
    go_wp2_with fail
    refine (HUB.out _).mono ?_
    rintro e w_15 ⟨gRK, cRK, rfl, hcRK, hg, hrow, hb⟩
    simp only at hcRK hrow
    have hyRK := Lib.hid hrow
    have RPz := Lib.hid (RP.out.below hb RP.out.1)
    clear RP
    have RP := RPz
    clear RPz
    have RNz := Lib.hid (RN.out.below hb RN.out.1)
    clear RN
    have RN := RNz
    clear RNz
    have RQz := Lib.hid (RQ.out.below hb RQ.out.1)
    clear RQ
    have RQ := RQz
    clear RQz
    have BN := Lib.hid (B0.out.trans (hb.mono B0.out.size))
    clear B0
    have B0 := BN
    clear BN
    have RK := hyRK
    clear hyRK hrow hb hg
    go_wp2_with fail
    refine (vInts_yes _ _ p _ (RK.out.flat hcRK) (RP.out.flat hcRP) hnRP).mono ?_
    rintro e w_16 ⟨rfl, hb⟩
    have RPz := Lib.hid (RP.out.below hb RP.out.1)
    clear RP
    have RP := RPz
    clear RPz
    have RNz := Lib.hid (RN.out.below hb RN.out.1)
    clear RN
    have RN := RNz
    clear RNz
    have RQz := Lib.hid (RQ.out.below hb RQ.out.1)
    clear RQ
    have RQ := RQz
    clear RQz
    have RKz := Lib.hid (RK.out.below hb RK.out.1)
    clear RK
    have RK := RKz
    clear RKz
    have BN := Lib.hid (B0.out.trans (hb.mono B0.out.size))
    clear B0
    have B0 := BN
    clear BN
    clear hb
    clear RK
    clear HUB
    cases more
    case false =>
      go_wp2_with fail
      go_ret
      exact ⟨rfl, B0.out⟩
    have HRN := Lib.hid (fun v W (h : FlatAt W v nx.length (ints nx)) => implRank_any v nx W h hnx)
    have hmm := HM.out (by first | rfl | trivial) (by first | rfl | trivial)
    obtain ⟨r2, b2, hr2⟩ : ∃ r b, P.rankF nx = (r, b) := ⟨_, _, rfl⟩
    rw [hr2] at HRN hmm
    simp only at hmm
    have HMM := Lib.hid hmm
    clear hr2 hmm HM
    go_wp2_with fail
    refine (HRN.out _ _ (RN.out.flat hcRN)).mono ?_
    rintro e w_17 ⟨rfl, hb⟩
    have RPz := Lib.hid (RP.out.below hb RP.out.1)
    clear RP
    have RP := RPz
    clear RPz
    have RNz := Lib.hid (RN.out.below hb RN.out.1)
    clear RN
    have RN := RNz
    clear RNz
    have RQz := Lib.hid (RQ.out.below hb RQ.out.1)
    clear RQ
    have RQ := RQz
    clear RQz
    have BN := Lib.hid (B0.out.trans (hb.mono B0.out.size))
    clear B0
    have B0 := BN
    clear BN
    clear hb
    have hdd : decide (r2 = rk + 1) = true := decide_eq_true HMM.out
    have hbb : (r2 == rk + 1) = true := by rw [HMM.out]; simp
    go_wp2_with fail
    go_ret
    exact ⟨by simp [HMM.out], B0.out⟩

set_option maxRecDepth 100000 in
theorem lifted (os : Os) (started : os.Started) (H : Type) (enc : TypeId × Value → H) :
    ReturnsInHanded {} Try.checked os 7 .any (Rows.fnRanksSpec.pre6 enc Try.prog Try.f7 Rows.fnRanksRow.domain false) (Rows.fnRanksSpec.post enc Try.prog Try.f7 false true false false) := by
  refine returnsInHanded_of_change (C := Try.checked) own started (by kernel_rfl) Try.func7
    (ChangeSpec.witness6 (enc := enc) (C := Try.checked) false ⟨#[], #[.slice none 0 0], []⟩ 8 (by kernel_rfl) (by kernel_rfl) (by kernel_rfl) (by kernel_rfl)) ?_
  intro W base args ds gs before hval0 hW hcnd _
  have hval : ∀ (j : Nat) t v, Try.f7.params[j]? = some t → args[j]? = some v → Value.okWide Try.prog W .any base t v := hval0
  have hW' := hW
  obtain ⟨p, q, hA0, hV, rfl, hfz, hnd⟩ := hW
  have hA : DataW.TrodAll enc Try.prog W 0 (fun _ => true) true Try.f7.params.toList args.toList ds p := hA0
  rw [Try.params7] at hA hval
  obtain ⟨v0, vs0, d0, ds0, p0, q0, hargs, rfl, rfl, h0, r0⟩ := trodAll_cons hA
  obtain ⟨rfl, rfl, rfl⟩ := trodAll_nil r0
  obtain rfl : args = #[v0] := by cases args; simp_all
  obtain ⟨rfl, rfl⟩ := trodVars_none hV
  obtain ⟨a0, len0, cap0, rfl⟩ := okWide_slice Try.underlying22 (hval 0 22 v0 rfl rfl)
  have k0 := h0
  have lt0 : ∀ x ∈ p0, x.block < W.heap.size := by obtain ⟨m, hm⟩ := k0; exact DataW.trod_lt m _ _ _ hm
  obtain ⟨z0, w0⟩ : ∃ zs, IsRow .u8 W a0 len0 cap0 zs := by
    obtain ⟨fuel, hf⟩ := h0
    rcases open_ints Try.underlying22 Try.underlying5 (by kernel_rfl) hf with ⟨hcs, _⟩ | ⟨x, l, c, zs, hcs, _, hl, hm, hz, _, hcell, hwz⟩
    · simp [Value.cells] at hcs
      obtain ⟨rfl, rfl, rfl⟩ := hcs
      exact ⟨[], .inl ⟨rfl, rfl, rfl, rfl⟩⟩
    · simp [Value.cells] at hcs
      obtain ⟨rfl, rfl, rfl⟩ := hcs
      exact ⟨zs, .inr ⟨_, rfl, hl, hm, by simpa using hz, hcell, hwz⟩⟩
  clear hA0 hval0
  refine (walk a0 len0 cap0 z0 W w0).mono fun e W' ⟨he, bel⟩ => ?_
  subst he
  exact ⟨_, rfl, _, _, _, [], _, [], hW', trodAll_mk1 (shut_bool Try.underlying4 _), (trodAll_cons_mk (Below.trod laidOut (by kernel_rfl) (of_decide_eq_true (by kernel_rfl)) k0 bel lt0) trodAll_mk0), rfl, bel.frame _, fun h => by cases h⟩

theorem closed : joinedFacts Try.prog 7 Try.f7 Rows.fnRanksSpec Rows.fnRanksRow = true := by
  unfold joinedFacts
  rw [head_enter, head_final, head_make]
  kernel_rfl

theorem over : Rows.fnRanksRow.holds Try.pinned (OpenSpec.ofChange Rows.fnRanksSpec) :=
  OpenClaim.holds_of_wide 7 Try.f7 rfl rfl rfl rfl rfl rfl rfl ⟨rfl, rfl, rfl, rfl, rfl⟩ rfl rfl rfl rfl rfl (by kernel_rfl) Try.func7 closed
    (of_decide_eq_true (by kernel_rfl)) (by unfold Func.isWrapper; first | (rw [if_pos (by decide +kernel)]; kernel_rfl) | (rw [if_neg (by decide +kernel)]; exact ⟨rfl, rfl⟩))
    (fun os started H enc _ => lifted os started H enc)

theorem proved : Rows.FnRanksSaid := over
#print axioms proved
end Go.Proofs.Ytckogbmaahenhaa.fnRanks
