/- FnQuick returns true at every input. No condition. -/
import Derived.Test.YtipdfmedbcafpaaRows
import Derived.WalkKit
import Derived.ProofKit
import Derived.OpenShut
import Derived.ShutString
import Derived.ChangeOld
import Derived.Below
import Derived.SliceStrings
import Derived.Test.YtipdfmedbcafpaaHead
import Derived.Test.YtipdfmedbcafpaaQkAll
import Derived.Test.YtipdfmedbcafpaaIMed
import Derived.Test.YtipdfmedbcafpaaVOrd
import Derived.Test.YtipdfmedbcafpaaVInts
import Derived.Test.YtipdfmedbcafpaaCode
namespace Go.Proofs.Ytipdfmedbcafpaa.fnQuick
open Go.ChangeShapes Go.WideShapes Go.ChangeAt Go.RowKit
open Go.ChangeMaps (open_string shut_string)
set_option linter.unusedVariables false

theorem own : ownKnob Try.prog.godebug = none := by kernel_rfl
theorem laidOut : laidOutB Try.prog = true := by kernel_rfl

def IsRow (k : IntKind) (w : World) (a : Option Addr) (len cap : Nat) (zs : List Int) : Prop :=
  (a = none ∧ len = 0 ∧ cap = 0 ∧ zs = []) ∨
  ∃ x, a = some x ∧ len ≤ cap ∧ cap ≤ maxLen ∧ zs.length = cap ∧ (∀ i, i < zs.length → w.cell? (x.add i) = some (.int k (zs.getD i 0))) ∧ ∀ n ∈ zs, (Lit.int k n).wf = true

theorem code_of {w : World} {a : Option Addr} {len cap : Nat} {zs : List Int} (h : IsRow .u8 w a len cap zs) : Code0 w a len := by
  intro k hk
  rcases h with ⟨_, rfl, _⟩ | ⟨x, rfl, hlc, _, hz, hc, hw⟩
  · omega
  · have hkz : k < zs.length := by omega
    have hd : zs.getD k 0 = zs[k] := by simp [List.getD, hkz]
    have hm := hw zs[k] (List.getElem_mem hkz)
    have hcell := hc k hkz
    rw [hd] at hcell
    have hlt := World.block_lt_of_cell? w _ hcell
    have hbk := Go.ChangeShapes.block_add x k
    have hr := bounds_u8 hm
    exact ⟨x, zs[k], rfl, by omega, hcell, hr.1, hr.2⟩

theorem vbig_no (a : Option Addr) (len cap : Nat) (w : World) (h : len ≤ 65536) : Calls Try.prog 16 #[.slice a len cap] w fun e w' => e = .returned (.bool false) ∧ w' = w := by
  go_enter Try.func16, Try.ntmps16
  have hq : decide ((65536 : Int) < (len : Int)) = false := decide_eq_false (by omega)
  go_wp2
  go_ret
  exact ⟨by rw [← hq]; rfl, rfl⟩

set_option maxRecDepth 100000 in
set_option maxHeartbeats 40000000 in
theorem walk (a : Option Addr) (len cap : Nat) (z : List Int) (w : World) (w0 : IsRow .u8 w a len cap z) :
    Calls Try.prog 8 #[.slice a len cap] w fun e w' => e = .returned (.bool true) ∧ Below w.heap.size w w' := by
  have hlen : len ≤ maxLen := by
    rcases w0 with ⟨_, rfl, _⟩ | ⟨x, _, h1, h2, _⟩ <;> omega
  unfold maxLen at hlen
  have HCODE := Lib.hid (code_of w0)
  clear w0
  by_cases hbig : 65536 < len
  · clear HCODE
    go_enter Try.func8, Try.ntmps8
    go_wp2
    go_ret
    exact ⟨rfl, Below.refl _ _⟩
  · go_enter Try.func8, Try.ntmps8
    go_wp2_with fail
    refine (vbig_no a len cap _ (by omega)).mono ?_
    rintro e w0 ⟨rfl, rfl⟩
    clear hlen hbig
    have B0 : Hid (Below w0.heap.size w0 w0) := Lib.hid (Below.refl _ _)
    have HCODE0 := HCODE
    go_wp2_with fail
    refine (drawQuick_any a len cap _ HCODE.out).mono ?_
    rintro e w_1 ⟨gRL, cRL, li, hlRL, rfl, hcRL, hrow, hb⟩
    have RL := Lib.hid hrow
    have hnRL : li.length ≤ 1048576 := by omega
    have BN := Lib.hid (B0.out.trans (hb.mono B0.out.size))
    clear B0
    have B0 := BN
    clear BN
    clear hrow hb HCODE
    obtain ⟨S, st0, okl, hS⟩ : ∃ x1 y1 b1, Qk.qsAll li = (x1, y1, b1) := ⟨_, _, _, rfl⟩
    have HI := Lib.hid (fun b o c W (h : FlatAt W (.slice (some ⟨b, o, none⟩) li.length c) li.length (ints li)) => by have := implQk_any b o c li W h hnRL; rw [hS] at this; exact this)
    have HSP := Lib.hid (fun b o c W (h : FlatAt W (.slice (some ⟨b, o, none⟩) li.length c) li.length (ints li)) => by have := specQk_any b o c li W h hnRL; rw [hS] at this; exact this)
    have hs : S.length ≤ 1048576 := by have := Qk.qsAll_len li; rw [hS] at this; exact this
    have HYS : Hid (okl = true → ∃ q : Nat, st0 = q ∧ q ≤ li.length ∧ li.length ≤ 64 ∧ S = El.srt li) := Lib.hid (fun hk => by
      by_cases h : OkL li
      · rw [Qk.qsAll_yes h] at hS
        simp only [Prod.mk.injEq] at hS
        have hq := Qk.qsF_spec li
        exact ⟨_, hS.2.1.symm, hq.2, h.1, by rw [← hS.1]; exact hq.1⟩
      · rw [Qk.qsAll_no h] at hS; simp only [Prod.mk.injEq] at hS; rw [← hS.2.2] at hk; cases hk)
    clear hS
    go_wp2_with fail
    refine (HI.out _ _ _ _ (RL.out.flat hcRL)).mono ?_
    rintro e w_2 ⟨gRQ, cRQ, rfl, hcRQ, hg, hrow, hb⟩
    simp only at hcRQ hrow
    have hyRQ := Lib.hid hrow
    have RLz := Lib.hid (RL.out.below hb RL.out.1)
    clear RL
    have RL := RLz
    clear RLz
    have BN := Lib.hid (B0.out.trans (hb.mono B0.out.size))
    clear B0
    have B0 := BN
    clear BN
    have RQ := hyRQ
    clear hyRQ hrow hb hg
    go_wp2_with fail
    refine (HSP.out _ _ _ _ (RL.out.flat hcRL)).mono ?_
    rintro e w_3 ⟨gRW, cRW, rfl, hcRW, hg, hrow, hb⟩
    simp only at hcRW hrow
    have hyRW := Lib.hid hrow
    have RLz := Lib.hid (RL.out.below hb RL.out.1)
    clear RL
    have RL := RLz
    clear RLz
    have RQz := Lib.hid (RQ.out.below hb RQ.out.1)
    clear RQ
    have RQ := RQz
    clear RQz
    have BN := Lib.hid (B0.out.trans (hb.mono B0.out.size))
    clear B0
    have B0 := BN
    clear BN
    have RW := hyRW
    clear hyRW hrow hb hg
    go_wp2_with fail
    refine (vInts_yes _ _ S _ (RQ.out.flat hcRQ) (RW.out.flat hcRW) hs).mono ?_
    rintro e w_4 ⟨rfl, hb⟩
    have RLz := Lib.hid (RL.out.below hb RL.out.1)
    clear RL
    have RL := RLz
    clear RLz
    have RQz := Lib.hid (RQ.out.below hb RQ.out.1)
    clear RQ
    have RQ := RQz
    clear RQz
    have RWz := Lib.hid (RW.out.below hb RW.out.1)
    clear RW
    have RW := RWz
    clear RWz
    have BN := Lib.hid (B0.out.trans (hb.mono B0.out.size))
    clear B0
    have B0 := BN
    clear BN
    clear hb
    clear RW
    clear HI HSP
    have HCODE := Lib.hid (HCODE0.out.below B0.out)
    clear HCODE0
    go_wp2_with fail
    refine (drawIk_any a len cap _ HCODE.out).mono ?_
    rintro e w_5 ⟨gRX, cRX, xs, lim, hlRX, hp1, hp2, rfl, hcRX, hrow, hb⟩
    have RX := Lib.hid hrow
    have hnRX : xs.length ≤ 1048576 := by omega
    have RLz := Lib.hid (RL.out.below hb RL.out.1)
    clear RL
    have RL := RLz
    clear RLz
    have RQz := Lib.hid (RQ.out.below hb RQ.out.1)
    clear RQ
    have RQ := RQz
    clear RQz
    have BN := Lib.hid (B0.out.trans (hb.mono B0.out.size))
    clear B0
    have B0 := BN
    clear BN
    clear hrow hb HCODE
    obtain ⟨U, n0, h0, fine, hU⟩ : ∃ x1 y1 z1 b1, Qk.itAll xs lim = (x1, y1, z1, b1) := ⟨_, _, _, _, rfl⟩
    have HI := Lib.hid (fun b o c W (h : FlatAt W (.slice (some ⟨b, o, none⟩) xs.length c) xs.length (ints xs)) => by have := implIk_any b o c xs lim W h hnRX; rw [hU] at this; exact this)
    have HSP := Lib.hid (fun b o c W (h : FlatAt W (.slice (some ⟨b, o, none⟩) xs.length c) xs.length (ints xs)) => by have := specIk_any b o c xs lim W h hnRX; rw [hU] at this; exact this)
    have hu : U.length ≤ 1048576 := by have := Qk.itAll_len xs lim; rw [hU] at this; exact this
    have HYU : Hid (fine = true → xs.length ≤ 64 ∧ U = El.srt xs ∧ (lim = 0 → n0 = 0)) := Lib.hid (fun hk => by
      by_cases h : OkL xs ∧ Qk.OkI lim
      · obtain ⟨m, rfl⟩ : ∃ m : Nat, lim = m := ⟨lim.toNat, by have := h.2.1; omega⟩
        rw [Qk.itAll_yes h.1 (by have := h.2.2; omega)] at hU
        simp only [Prod.mk.injEq] at hU
        refine ⟨h.1.1, by rw [← hU.1]; exact (Qk.itn_spec m xs).1, fun e => ?_⟩
        obtain rfl : m = 0 := by omega
        rw [← hU.2.1, Qk.itn_zero]; rfl
      · rw [Qk.itAll_no h] at hU; simp only [Prod.mk.injEq] at hU; rw [← hU.2.2.2] at hk; cases hk)
    clear hU
    go_wp2_with fail
    refine (HI.out _ _ _ _ (RX.out.flat hcRX)).mono ?_
    rintro e w_6 ⟨gRU, cRU, rfl, hcRU, hg, hrow, hb⟩
    simp only at hcRU hrow
    have hyRU := Lib.hid hrow
    have RLz := Lib.hid (RL.out.below hb RL.out.1)
    clear RL
    have RL := RLz
    clear RLz
    have RQz := Lib.hid (RQ.out.below hb RQ.out.1)
    clear RQ
    have RQ := RQz
    clear RQz
    have RXz := Lib.hid (RX.out.below hb RX.out.1)
    clear RX
    have RX := RXz
    clear RXz
    have BN := Lib.hid (B0.out.trans (hb.mono B0.out.size))
    clear B0
    have B0 := BN
    clear BN
    have RU := hyRU
    clear hyRU hrow hb hg
    go_wp2_with fail
    refine (HSP.out _ _ _ _ (RX.out.flat hcRX)).mono ?_
    rintro e w_7 ⟨gRV, cRV, rfl, hcRV, hg, hrow, hb⟩
    simp only at hcRV hrow
    have hyRV := Lib.hid hrow
    have RLz := Lib.hid (RL.out.below hb RL.out.1)
    clear RL
    have RL := RLz
    clear RLz
    have RQz := Lib.hid (RQ.out.below hb RQ.out.1)
    clear RQ
    have RQ := RQz
    clear RQz
    have RXz := Lib.hid (RX.out.below hb RX.out.1)
    clear RX
    have RX := RXz
    clear RXz
    have RUz := Lib.hid (RU.out.below hb RU.out.1)
    clear RU
    have RU := RUz
    clear RUz
    have BN := Lib.hid (B0.out.trans (hb.mono B0.out.size))
    clear B0
    have B0 := BN
    clear BN
    have RV := hyRV
    clear hyRV hrow hb hg
    clear HI HSP
    have HMI := Lib.hid (fun b o c W (h : FlatAt W (.slice (some ⟨b, o, none⟩) li.length c) li.length (ints li)) => implMed_any b o c li W h hnRL)
    have HMS := Lib.hid (fun b o c W (h : FlatAt W (.slice (some ⟨b, o, none⟩) li.length c) li.length (ints li)) => specMed_any b o c li W h hnRL)
    generalize Qk.medAll li = M at HMI HMS
    obtain ⟨M1, M2⟩ := M
    go_wp2_with fail
    refine (HMI.out _ _ _ _ (RL.out.flat hcRL)).mono ?_
    rintro e w_8 ⟨rfl, hb⟩
    have RLz := Lib.hid (RL.out.below hb RL.out.1)
    clear RL
    have RL := RLz
    clear RLz
    have RQz := Lib.hid (RQ.out.below hb RQ.out.1)
    clear RQ
    have RQ := RQz
    clear RQz
    have RXz := Lib.hid (RX.out.below hb RX.out.1)
    clear RX
    have RX := RXz
    clear RXz
    have RUz := Lib.hid (RU.out.below hb RU.out.1)
    clear RU
    have RU := RUz
    clear RUz
    have RVz := Lib.hid (RV.out.below hb RV.out.1)
    clear RV
    have RV := RVz
    clear RVz
    have BN := Lib.hid (B0.out.trans (hb.mono B0.out.size))
    clear B0
    have B0 := BN
    clear BN
    clear hb
    go_wp2_with fail
    refine (HMS.out _ _ _ _ (RL.out.flat hcRL)).mono ?_
    rintro e w_9 ⟨rfl, hb⟩
    have RLz := Lib.hid (RL.out.below hb RL.out.1)
    clear RL
    have RL := RLz
    clear RLz
    have RQz := Lib.hid (RQ.out.below hb RQ.out.1)
    clear RQ
    have RQ := RQz
    clear RQz
    have RXz := Lib.hid (RX.out.below hb RX.out.1)
    clear RX
    have RX := RXz
    clear RXz
    have RUz := Lib.hid (RU.out.below hb RU.out.1)
    clear RU
    have RU := RUz
    clear RUz
    have RVz := Lib.hid (RV.out.below hb RV.out.1)
    clear RV
    have RV := RVz
    clear RVz
    have BN := Lib.hid (B0.out.trans (hb.mono B0.out.size))
    clear B0
    have B0 := BN
    clear BN
    clear hb
    clear HMI HMS
    go_wp2_with fail
    refine (vInts_yes _ _ U _ (RU.out.flat hcRU) (RV.out.flat hcRV) hu).mono ?_
    rintro e w_10 ⟨rfl, hb⟩
    have RLz := Lib.hid (RL.out.below hb RL.out.1)
    clear RL
    have RL := RLz
    clear RLz
    have RQz := Lib.hid (RQ.out.below hb RQ.out.1)
    clear RQ
    have RQ := RQz
    clear RQz
    have RXz := Lib.hid (RX.out.below hb RX.out.1)
    clear RX
    have RX := RXz
    clear RXz
    have RUz := Lib.hid (RU.out.below hb RU.out.1)
    clear RU
    have RU := RUz
    clear RUz
    have RVz := Lib.hid (RV.out.below hb RV.out.1)
    clear RV
    have RV := RVz
    clear RVz
    have BN := Lib.hid (B0.out.trans (hb.mono B0.out.size))
    clear B0
    have B0 := BN
    clear BN
    clear hb
    clear RV
    cases fine
    case false =>
      clear HYU
      cases okl
      case false =>
        clear HYS
        go_wp2_with fail
        go_ret
        exact ⟨rfl, B0.out⟩
      obtain ⟨q, rfl, hql, hl64, hse⟩ := HYS.out (by first | rfl | trivial)
      have HVL := Lib.hid (fun b o c W (h : FlatAt W (.slice (some ⟨b, o, none⟩) li.length c) li.length (ints li)) => by have := vOrdered_any b o c li W h hl64; rw [← hse] at this; exact this)
      have hqd : decide (q ≤ li.length) = true := decide_eq_true hql
      have hqz : (q : Int) ≤ (li.length : Int) := by omega
      clear hse HYS
      go_wp2_with fail
      refine (HVL.out _ _ _ _ (RL.out.flat hcRL)).mono ?_
      rintro e w_11 ⟨gRO, cRO, rfl, hcRO, hg, hrow, hb⟩
      have hyRO := Lib.hid hrow
      have RLz := Lib.hid (RL.out.below hb RL.out.1)
      clear RL
      have RL := RLz
      clear RLz
      have RQz := Lib.hid (RQ.out.below hb RQ.out.1)
      clear RQ
      have RQ := RQz
      clear RQz
      have RXz := Lib.hid (RX.out.below hb RX.out.1)
      clear RX
      have RX := RXz
      clear RXz
      have RUz := Lib.hid (RU.out.below hb RU.out.1)
      clear RU
      have RU := RUz
      clear RUz
      have BN := Lib.hid (B0.out.trans (hb.mono B0.out.size))
      clear B0
      have B0 := BN
      clear BN
      have RO := hyRO
      clear hyRO hrow hb hg HVL
      go_wp2_with fail
      refine (vInts_yes _ _ S _ (RQ.out.flat hcRQ) (RO.out.flat hcRO) hs).mono ?_
      rintro e w_12 ⟨rfl, hb⟩
      have RLz := Lib.hid (RL.out.below hb RL.out.1)
      clear RL
      have RL := RLz
      clear RLz
      have RQz := Lib.hid (RQ.out.below hb RQ.out.1)
      clear RQ
      have RQ := RQz
      clear RQz
      have RXz := Lib.hid (RX.out.below hb RX.out.1)
      clear RX
      have RX := RXz
      clear RXz
      have RUz := Lib.hid (RU.out.below hb RU.out.1)
      clear RU
      have RU := RUz
      clear RUz
      have ROz := Lib.hid (RO.out.below hb RO.out.1)
      clear RO
      have RO := ROz
      clear ROz
      have BN := Lib.hid (B0.out.trans (hb.mono B0.out.size))
      clear B0
      have B0 := BN
      clear BN
      clear hb
      go_wp2_with fail
      go_ret
      exact ⟨rfl, B0.out⟩
    obtain ⟨hx64, hue, hzero⟩ := HYU.out (by first | rfl | trivial)
    have HVX := Lib.hid (fun b o c W (h : FlatAt W (.slice (some ⟨b, o, none⟩) xs.length c) xs.length (ints xs)) => by have := vOrdered_any b o c xs W h hx64; rw [← hue] at this; exact this)
    clear hue HYU
    go_wp2_with fail
    refine (HVX.out _ _ _ _ (RX.out.flat hcRX)).mono ?_
    rintro e w_13 ⟨gRP, cRP, rfl, hcRP, hg, hrow, hb⟩
    have hyRP := Lib.hid hrow
    have RLz := Lib.hid (RL.out.below hb RL.out.1)
    clear RL
    have RL := RLz
    clear RLz
    have RQz := Lib.hid (RQ.out.below hb RQ.out.1)
    clear RQ
    have RQ := RQz
    clear RQz
    have RXz := Lib.hid (RX.out.below hb RX.out.1)
    clear RX
    have RX := RXz
    clear RXz
    have RUz := Lib.hid (RU.out.below hb RU.out.1)
    clear RU
    have RU := RUz
    clear RUz
    have BN := Lib.hid (B0.out.trans (hb.mono B0.out.size))
    clear B0
    have B0 := BN
    clear BN
    have RP := hyRP
    clear hyRP hrow hb hg HVX
    go_wp2_with fail
    refine (vInts_yes _ _ U _ (RU.out.flat hcRU) (RP.out.flat hcRP) hu).mono ?_
    rintro e w_14 ⟨rfl, hb⟩
    have RLz := Lib.hid (RL.out.below hb RL.out.1)
    clear RL
    have RL := RLz
    clear RLz
    have RQz := Lib.hid (RQ.out.below hb RQ.out.1)
    clear RQ
    have RQ := RQz
    clear RQz
    have RXz := Lib.hid (RX.out.below hb RX.out.1)
    clear RX
    have RX := RXz
    clear RXz
    have RUz := Lib.hid (RU.out.below hb RU.out.1)
    clear RU
    have RU := RUz
    clear RUz
    have RPz := Lib.hid (RP.out.below hb RP.out.1)
    clear RP
    have RP := RPz
    clear RPz
    have BN := Lib.hid (B0.out.trans (hb.mono B0.out.size))
    clear B0
    have B0 := BN
    clear BN
    clear hb
    clear RP RU RX
    by_cases hl0 : lim = 0
    · obtain rfl := hzero hl0
      subst hl0
      clear hzero
      cases okl
      case false =>
        clear HYS
        go_wp2_with fail
        go_ret
        exact ⟨rfl, B0.out⟩
      obtain ⟨q, rfl, hql, hl64, hse⟩ := HYS.out (by first | rfl | trivial)
      have HVL := Lib.hid (fun b o c W (h : FlatAt W (.slice (some ⟨b, o, none⟩) li.length c) li.length (ints li)) => by have := vOrdered_any b o c li W h hl64; rw [← hse] at this; exact this)
      have hqd : decide (q ≤ li.length) = true := decide_eq_true hql
      have hqz : (q : Int) ≤ (li.length : Int) := by omega
      clear hse HYS
      go_wp2_with fail
      refine (HVL.out _ _ _ _ (RL.out.flat hcRL)).mono ?_
      rintro e w_15 ⟨gRO, cRO, rfl, hcRO, hg, hrow, hb⟩
      have hyRO := Lib.hid hrow
      have RLz := Lib.hid (RL.out.below hb RL.out.1)
      clear RL
      have RL := RLz
      clear RLz
      have RQz := Lib.hid (RQ.out.below hb RQ.out.1)
      clear RQ
      have RQ := RQz
      clear RQz
      have BN := Lib.hid (B0.out.trans (hb.mono B0.out.size))
      clear B0
      have B0 := BN
      clear BN
      have RO := hyRO
      clear hyRO hrow hb hg HVL
      go_wp2_with fail
      refine (vInts_yes _ _ S _ (RQ.out.flat hcRQ) (RO.out.flat hcRO) hs).mono ?_
      rintro e w_16 ⟨rfl, hb⟩
      have RLz := Lib.hid (RL.out.below hb RL.out.1)
      clear RL
      have RL := RLz
      clear RLz
      have RQz := Lib.hid (RQ.out.below hb RQ.out.1)
      clear RQ
      have RQ := RQz
      clear RQz
      have ROz := Lib.hid (RO.out.below hb RO.out.1)
      clear RO
      have RO := ROz
      clear ROz
      have BN := Lib.hid (B0.out.trans (hb.mono B0.out.size))
      clear B0
      have B0 := BN
      clear BN
      clear hb
      go_wp2_with fail
      go_ret
      exact ⟨rfl, B0.out⟩
    · have hl1 : (lim == 0) = false := beq_eq_false_iff_ne.2 hl0
      clear hzero
      cases okl
      case false =>
        clear HYS
        go_wp2_with fail
        go_ret
        exact ⟨rfl, B0.out⟩
      obtain ⟨q, rfl, hql, hl64, hse⟩ := HYS.out (by first | rfl | trivial)
      have HVL := Lib.hid (fun b o c W (h : FlatAt W (.slice (some ⟨b, o, none⟩) li.length c) li.length (ints li)) => by have := vOrdered_any b o c li W h hl64; rw [← hse] at this; exact this)
      have hqd : decide (q ≤ li.length) = true := decide_eq_true hql
      have hqz : (q : Int) ≤ (li.length : Int) := by omega
      clear hse HYS
      go_wp2_with fail
      refine (HVL.out _ _ _ _ (RL.out.flat hcRL)).mono ?_
      rintro e w_17 ⟨gRO, cRO, rfl, hcRO, hg, hrow, hb⟩
      have hyRO := Lib.hid hrow
      have RLz := Lib.hid (RL.out.below hb RL.out.1)
      clear RL
      have RL := RLz
      clear RLz
      have RQz := Lib.hid (RQ.out.below hb RQ.out.1)
      clear RQ
      have RQ := RQz
      clear RQz
      have BN := Lib.hid (B0.out.trans (hb.mono B0.out.size))
      clear B0
      have B0 := BN
      clear BN
      have RO := hyRO
      clear hyRO hrow hb hg HVL
      go_wp2_with fail
      refine (vInts_yes _ _ S _ (RQ.out.flat hcRQ) (RO.out.flat hcRO) hs).mono ?_
      rintro e w_18 ⟨rfl, hb⟩
      have RLz := Lib.hid (RL.out.below hb RL.out.1)
      clear RL
      have RL := RLz
      clear RLz
      have RQz := Lib.hid (RQ.out.below hb RQ.out.1)
      clear RQ
      have RQ := RQz
      clear RQz
      have ROz := Lib.hid (RO.out.below hb RO.out.1)
      clear RO
      have RO := ROz
      clear ROz
      have BN := Lib.hid (B0.out.trans (hb.mono B0.out.size))
      clear B0
      have B0 := BN
      clear BN
      clear hb
      go_wp2_with fail
      go_ret
      exact ⟨rfl, B0.out⟩

set_option maxRecDepth 100000 in
theorem lifted (os : Os) (started : os.Started) (H : Type) (enc : TypeId × Value → H) :
    ReturnsInHanded {} Try.checked os 8 .any (Rows.fnQuickSpec.pre6 enc Try.prog Try.f8 Rows.fnQuickRow.domain false) (Rows.fnQuickSpec.post enc Try.prog Try.f8 false true false false) := by
  refine returnsInHanded_of_change (C := Try.checked) own started (by kernel_rfl) Try.func8
    (ChangeSpec.witness6 (enc := enc) (C := Try.checked) false ⟨#[], #[.slice none 0 0], []⟩ 8 (by kernel_rfl) (by kernel_rfl) (by kernel_rfl) (by kernel_rfl)) ?_
  intro W base args ds gs before hval0 hW hcnd _
  have hval : ∀ (j : Nat) t v, Try.f8.params[j]? = some t → args[j]? = some v → Value.okWide Try.prog W .any base t v := hval0
  have hW' := hW
  obtain ⟨p, q, hA0, hV, rfl, hfz, hnd⟩ := hW
  have hA : DataW.TrodAll enc Try.prog W 0 (fun _ => true) true Try.f8.params.toList args.toList ds p := hA0
  rw [Try.params8] at hA hval
  obtain ⟨v0, vs0, d0, ds0, p0, q0, hargs, rfl, rfl, h0, r0⟩ := trodAll_cons hA
  obtain ⟨rfl, rfl, rfl⟩ := trodAll_nil r0
  obtain rfl : args = #[v0] := by cases args; simp_all
  obtain ⟨rfl, rfl⟩ := trodVars_none hV
  obtain ⟨a0, len0, cap0, rfl⟩ := okWide_slice Try.underlying22 (hval 0 22 v0 rfl rfl)
  have k0 := h0
  have lt0 : ∀ x ∈ p0, x.block < W.heap.size := by obtain ⟨m, hm⟩ := k0; exact DataW.trod_lt m _ _ _ hm
  obtain ⟨z0, w0⟩ : ∃ zs, IsRow .u8 W a0 len0 cap0 zs := by
    obtain ⟨fuel, hf⟩ := h0
    rcases open_ints Try.underlying22 Try.underlying5 (by kernel_rfl) hf with ⟨hcs, _⟩ | ⟨x, l, c, zs, hcs, _, hl, hm, hz, _, hcell, hwz⟩
    · simp [Value.cells] at hcs
      obtain ⟨rfl, rfl, rfl⟩ := hcs
      exact ⟨[], .inl ⟨rfl, rfl, rfl, rfl⟩⟩
    · simp [Value.cells] at hcs
      obtain ⟨rfl, rfl, rfl⟩ := hcs
      exact ⟨zs, .inr ⟨_, rfl, hl, hm, by simpa using hz, hcell, hwz⟩⟩
  clear hA0 hval0
  refine (walk a0 len0 cap0 z0 W w0).mono fun e W' ⟨he, bel⟩ => ?_
  subst he
  exact ⟨_, rfl, _, _, _, [], _, [], hW', trodAll_mk1 (shut_bool Try.underlying4 _), (trodAll_cons_mk (Below.trod laidOut (by kernel_rfl) (of_decide_eq_true (by kernel_rfl)) k0 bel lt0) trodAll_mk0), rfl, bel.frame _, fun h => by cases h⟩

theorem closed : joinedFacts Try.prog 8 Try.f8 Rows.fnQuickSpec Rows.fnQuickRow = true := by
  unfold joinedFacts
  rw [head_enter, head_final, head_make]
  kernel_rfl

theorem over : Rows.fnQuickRow.holds Try.pinned (OpenSpec.ofChange Rows.fnQuickSpec) :=
  OpenClaim.holds_of_wide 8 Try.f8 rfl rfl rfl rfl rfl rfl rfl ⟨rfl, rfl, rfl, rfl, rfl⟩ rfl rfl rfl rfl rfl (by kernel_rfl) Try.func8 closed
    (of_decide_eq_true (by kernel_rfl)) (by unfold Func.isWrapper; first | (rw [if_pos (by decide +kernel)]; kernel_rfl) | (rw [if_neg (by decide +kernel)]; exact ⟨rfl, rfl⟩))
    (fun os started H enc _ => lifted os started H enc)

theorem proved : Rows.FnQuickSaid := over
#print axioms proved
end Go.Proofs.Ytipdfmedbcafpaa.fnQuick
