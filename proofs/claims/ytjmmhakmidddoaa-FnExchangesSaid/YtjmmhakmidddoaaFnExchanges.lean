/- FnExchanges returns true at every input. No condition. -/
import Derived.Test.YtjmmhakmidddoaaRows
import Derived.WalkKit
import Derived.ProofKit
import Derived.OpenShut
import Derived.ShutString
import Derived.ChangeOld
import Derived.Below
import Derived.SliceStrings
import Derived.Test.YtjmmhakmidddoaaHead
import Derived.Test.YtjmmhakmidddoaaISel
import Derived.Test.YtjmmhakmidddoaaSSel
import Derived.Test.YtjmmhakmidddoaaIBub
import Derived.Test.YtjmmhakmidddoaaSBub
import Derived.Test.YtjmmhakmidddoaaWrites
import Derived.Test.YtjmmhakmidddoaaDsc
import Derived.Test.YtjmmhakmidddoaaIInsF
import Derived.Test.YtjmmhakmidddoaaVInts
import Derived.Test.YtjmmhakmidddoaaDrawSel
import Derived.Test.YtjmmhakmidddoaaCode
namespace Go.Proofs.Ytjmmhakmidddoaa.fnExchanges
open Go.ChangeShapes Go.WideShapes Go.ChangeAt Go.RowKit
open Go.ChangeMaps (open_string shut_string)
set_option linter.unusedVariables false

theorem own : ownKnob Try.prog.godebug = none := by kernel_rfl
theorem laidOut : laidOutB Try.prog = true := by kernel_rfl

def IsRow (k : IntKind) (w : World) (a : Option Addr) (len cap : Nat) (zs : List Int) : Prop :=
  (a = none ∧ len = 0 ∧ cap = 0 ∧ zs = []) ∨
  ∃ x, a = some x ∧ len ≤ cap ∧ cap ≤ maxLen ∧ zs.length = cap ∧ (∀ i, i < zs.length → w.cell? (x.add i) = some (.int k (zs.getD i 0))) ∧ ∀ n ∈ zs, (Lit.int k n).wf = true

theorem code_of {w : World} {a : Option Addr} {len cap : Nat} {zs : List Int} (h : IsRow .u8 w a len cap zs) : Code0 w a len := by
  intro k hk
  rcases h with ⟨_, rfl, _⟩ | ⟨x, rfl, hlc, _, hz, hc, hw⟩
  · omega
  · have hkz : k < zs.length := by omega
    have hd : zs.getD k 0 = zs[k] := by simp [List.getD, hkz]
    have hm := hw zs[k] (List.getElem_mem hkz)
    have hcell := hc k hkz
    rw [hd] at hcell
    have hlt := World.block_lt_of_cell? w _ hcell
    have hbk := Go.ChangeShapes.block_add x k
    have hr := bounds_u8 hm
    exact ⟨x, zs[k], rfl, by omega, hcell, hr.1, hr.2⟩

theorem vbig_no (a : Option Addr) (len cap : Nat) (w : World) (h : len ≤ 65536) : Calls Try.prog 17 #[.slice a len cap] w fun e w' => e = .returned (.bool false) ∧ w' = w := by
  go_enter Try.func17, Try.ntmps17
  have hq : decide ((65536 : Int) < (len : Int)) = false := decide_eq_false (by omega)
  go_wp2
  go_ret
  exact ⟨by rw [← hq]; rfl, rfl⟩

set_option maxRecDepth 100000 in
set_option maxHeartbeats 40000000 in
theorem walk (a : Option Addr) (len cap : Nat) (z : List Int) (w : World) (w0 : IsRow .u8 w a len cap z) :
    Calls Try.prog 8 #[.slice a len cap] w fun e w' => e = .returned (.bool true) ∧ Below w.heap.size w w' := by
  have hlen : len ≤ maxLen := by
    rcases w0 with ⟨_, rfl, _⟩ | ⟨x, _, h1, h2, _⟩ <;> omega
  unfold maxLen at hlen
  have HCODE := Lib.hid (code_of w0)
  clear w0
  by_cases hbig : 65536 < len
  · clear HCODE
    go_enter Try.func8, Try.ntmps8
    go_wp2
    go_ret
    exact ⟨rfl, Below.refl _ _⟩
  · go_enter Try.func8, Try.ntmps8
    go_wp2_with fail
    refine (vbig_no a len cap _ (by omega)).mono ?_
    rintro e w0 ⟨rfl, rfl⟩
    clear hlen hbig
    have B0 : Hid (Below w0.heap.size w0 w0) := Lib.hid (Below.refl _ _)
    go_wp2_with fail
    refine (drawSelection_any a len cap _ HCODE.out).mono ?_
    rintro e w_1 ⟨gRL, cRL, li, hlRL, rfl, hcRL, hrow, hb⟩
    have RL := Lib.hid hrow
    have hnRL : li.length ≤ 1048576 := by omega
    have BN := Lib.hid (B0.out.trans (hb.mono B0.out.size))
    clear B0
    have B0 := BN
    clear BN
    clear hrow hb HCODE
    obtain ⟨s, Q, okl, hS⟩ : ∃ x y b, selAll li = (x, y, b) := ⟨_, _, _, rfl⟩
    obtain ⟨t, Pq, X, fine, hB⟩ : ∃ x y z b, bubAll li = (x, y, z, b) := ⟨_, _, _, _, rfl⟩
    obtain ⟨Wn, told, hW⟩ : ∃ x b, writesAll li = (x, b) := ⟨_, _, rfl⟩
    have HSI := Lib.hid (fun b o c W (h : FlatAt W (.slice (some ⟨b, o, none⟩) li.length c) li.length (ints li)) => by have := implSel_any b o c li W h hnRL; rw [hS] at this; exact this)
    have HSS := Lib.hid (fun b o c W (h : FlatAt W (.slice (some ⟨b, o, none⟩) li.length c) li.length (ints li)) => by have := specSel_any b o c li W h hnRL; rw [hS] at this; exact this)
    have HBI := Lib.hid (fun b o c W (h : FlatAt W (.slice (some ⟨b, o, none⟩) li.length c) li.length (ints li)) => by have := implBub_any b o c li W h hnRL; rw [hB] at this; exact this)
    have HBS := Lib.hid (fun b o c W (h : FlatAt W (.slice (some ⟨b, o, none⟩) li.length c) li.length (ints li)) => by have := specBub_any b o c li W h hnRL; rw [hB] at this; exact this)
    have HWI := Lib.hid (fun b o c W (h : FlatAt W (.slice (some ⟨b, o, none⟩) li.length c) li.length (ints li)) => by have := implWrites_any b o c li W h hnRL; rw [hW] at this; exact this)
    have HWS := Lib.hid (fun b o c W (h : FlatAt W (.slice (some ⟨b, o, none⟩) li.length c) li.length (ints li)) => by have := specWrites_any b o c li W h hnRL; rw [hW] at this; exact this)
    have hs : s.length ≤ 1048576 := by have := selAll_len li; rw [hS] at this; exact this
    have ht : t.length ≤ 1048576 := by have := bubAll_len li; rw [hB] at this; exact this
    have HYES : Hid (okl = true → fine = true ∧ told = true ∧ t = s ∧ li.length ≤ 64 ∧ ∃ q p x h m : Nat, ∃ (c d : Int), Q = q ∧ Pq = p ∧ X = x ∧ Wn = h ∧ (0 < li.length → q + 1 ≤ li.length) ∧ q ≤ x ∧ h ≤ 2 * q ∧ 1 ≤ p ∧ q ≤ 64 ∧ insAll li = (s, c, (m : Int), true) ∧ h ≤ m ∧ dscAll s = (-1, true) ∧ dscAll li = (d, true) ∧ ((d = -1 ∧ x = 0) ∨ ∃ k : Nat, d = k ∧ 0 < x)) := Lib.hid (fun hk => by
      by_cases h : OkL li
      · rw [selAll_yes h] at hS
        rw [bubAll_yes h] at hB
        rw [writesAll_yes h] at hW
        simp only [Prod.mk.injEq] at hS hB hW
        have hsel := El.sel_all li
        have hsrt := El.sel_srt li
        have hbub := El.bub_spec li
        have hss : s = El.srt li := by rw [← hS.1, hsrt]
        have hoks : OkL s := by
          rw [hss]
          exact ⟨by rw [El.srt_length]; exact h.1, fun y hy => h.2 y ((El.srt_perm li).mem_iff.1 hy)⟩
        have hq64 : (El.selF li).2 ≤ 64 := by
          have h1 := (El.selN_le li.length 0 (li, 0)).2
          have h2 : (El.selF li).2 = (El.selN 0 li.length (li, 0)).2 := rfl
          have := h.1
          simp only at h1
          omega
        refine ⟨hB.2.2.2.symm, hW.2.symm, by rw [← hB.1, hbub.1, hss], h.1, _, _, _, _, _, _, _, hS.2.1.symm, hB.2.1.symm, hB.2.2.1.symm, hW.1.symm, fun hp => El.sel_count hp, ?_, ?_, hbub.2.1, hq64, by rw [insAll_yes h, ← hss], El.ins_ham li, ?_, dscAll_yes h, ?_⟩
        · rw [hbub.2.2.2]; have := hsel.inv; omega
        · rw [← hsrt]; exact hsel.dif
        · rw [dscAll_yes hoks, El.descF_asc (by rw [hss]; exact El.srt_asc li)]
        · rw [hbub.2.2.2]
          rcases El.descF_spec li with ⟨h1, h2⟩ | ⟨k, h1, h2, h3, _⟩
          · exact .inl ⟨h1, El.invs_asc h2⟩
          · refine .inr ⟨k, h1, ?_⟩
            apply Nat.pos_of_ne_zero
            intro h0
            have := El.asc_at (El.asc_invs h0) (i := k) (j := k + 1) (by omega) h2
            omega
      · rw [selAll_no h] at hS; simp only [Prod.mk.injEq] at hS; rw [← hS.2.2] at hk; cases hk)
    have HNO : Hid (okl = false → fine = false ∧ told = false ∧ s = []) := Lib.hid (fun hk => by
      by_cases h : OkL li
      · rw [selAll_yes h] at hS; simp only [Prod.mk.injEq] at hS; rw [← hS.2.2] at hk; cases hk
      · rw [selAll_no h] at hS
        rw [bubAll_no h] at hB
        rw [writesAll_no h] at hW
        simp only [Prod.mk.injEq] at hS hB hW
        exact ⟨hB.2.2.2.symm, hW.2.symm, hS.1.symm⟩)
    clear hS hB hW
    go_wp2_with fail
    refine (HSI.out _ _ _ _ (RL.out.flat hcRL)).mono ?_
    rintro e w_2 ⟨gRQ, cRQ, rfl, hcRQ, hg, hrow, hb⟩
    simp only at hcRQ hrow
    have hyRQ := Lib.hid hrow
    have RLz := Lib.hid (RL.out.below hb RL.out.1)
    clear RL
    have RL := RLz
    clear RLz
    have BN := Lib.hid (B0.out.trans (hb.mono B0.out.size))
    clear B0
    have B0 := BN
    clear BN
    have RQ := hyRQ
    clear hyRQ hrow hb hg
    go_wp2_with fail
    refine (HSS.out _ _ _ _ (RL.out.flat hcRL)).mono ?_
    rintro e w_3 ⟨gRV, cRV, rfl, hcRV, hg, hrow, hb⟩
    simp only at hcRV hrow
    have hyRV := Lib.hid hrow
    have RLz := Lib.hid (RL.out.below hb RL.out.1)
    clear RL
    have RL := RLz
    clear RLz
    have RQz := Lib.hid (RQ.out.below hb RQ.out.1)
    clear RQ
    have RQ := RQz
    clear RQz
    have BN := Lib.hid (B0.out.trans (hb.mono B0.out.size))
    clear B0
    have B0 := BN
    clear BN
    have RV := hyRV
    clear hyRV hrow hb hg
    go_wp2_with fail
    refine (HBI.out _ _ _ _ (RL.out.flat hcRL)).mono ?_
    rintro e w_4 ⟨gRB, cRB, rfl, hcRB, hg, hrow, hb⟩
    simp only at hcRB hrow
    have hyRB := Lib.hid hrow
    have RLz := Lib.hid (RL.out.below hb RL.out.1)
    clear RL
    have RL := RLz
    clear RLz
    have RQz := Lib.hid (RQ.out.below hb RQ.out.1)
    clear RQ
    have RQ := RQz
    clear RQz
    have RVz := Lib.hid (RV.out.below hb RV.out.1)
    clear RV
    have RV := RVz
    clear RVz
    have BN := Lib.hid (B0.out.trans (hb.mono B0.out.size))
    clear B0
    have B0 := BN
    clear BN
    have RB := hyRB
    clear hyRB hrow hb hg
    go_wp2_with fail
    refine (HBS.out _ _ _ _ (RL.out.flat hcRL)).mono ?_
    rintro e w_5 ⟨gRC, cRC, rfl, hcRC, hg, hrow, hb⟩
    simp only at hcRC hrow
    have hyRC := Lib.hid hrow
    have RLz := Lib.hid (RL.out.below hb RL.out.1)
    clear RL
    have RL := RLz
    clear RLz
    have RQz := Lib.hid (RQ.out.below hb RQ.out.1)
    clear RQ
    have RQ := RQz
    clear RQz
    have RVz := Lib.hid (RV.out.below hb RV.out.1)
    clear RV
    have RV := RVz
    clear RVz
    have RBz := Lib.hid (RB.out.below hb RB.out.1)
    clear RB
    have RB := RBz
    clear RBz
    have BN := Lib.hid (B0.out.trans (hb.mono B0.out.size))
    clear B0
    have B0 := BN
    clear BN
    have RC := hyRC
    clear hyRC hrow hb hg
    go_wp2_with fail
    refine (HWI.out _ _ _ _ (RL.out.flat hcRL)).mono ?_
    rintro e w_6 ⟨rfl, hb⟩
    have RLz := Lib.hid (RL.out.below hb RL.out.1)
    clear RL
    have RL := RLz
    clear RLz
    have RQz := Lib.hid (RQ.out.below hb RQ.out.1)
    clear RQ
    have RQ := RQz
    clear RQz
    have RVz := Lib.hid (RV.out.below hb RV.out.1)
    clear RV
    have RV := RVz
    clear RVz
    have RBz := Lib.hid (RB.out.below hb RB.out.1)
    clear RB
    have RB := RBz
    clear RBz
    have RCz := Lib.hid (RC.out.below hb RC.out.1)
    clear RC
    have RC := RCz
    clear RCz
    have BN := Lib.hid (B0.out.trans (hb.mono B0.out.size))
    clear B0
    have B0 := BN
    clear BN
    clear hb
    go_wp2_with fail
    refine (HWS.out _ _ _ _ (RL.out.flat hcRL)).mono ?_
    rintro e w_7 ⟨rfl, hb⟩
    have RLz := Lib.hid (RL.out.below hb RL.out.1)
    clear RL
    have RL := RLz
    clear RLz
    have RQz := Lib.hid (RQ.out.below hb RQ.out.1)
    clear RQ
    have RQ := RQz
    clear RQz
    have RVz := Lib.hid (RV.out.below hb RV.out.1)
    clear RV
    have RV := RVz
    clear RVz
    have RBz := Lib.hid (RB.out.below hb RB.out.1)
    clear RB
    have RB := RBz
    clear RBz
    have RCz := Lib.hid (RC.out.below hb RC.out.1)
    clear RC
    have RC := RCz
    clear RCz
    have BN := Lib.hid (B0.out.trans (hb.mono B0.out.size))
    clear B0
    have B0 := BN
    clear BN
    clear hb
    go_wp2_with fail
    refine (vInts_yes _ _ s _ (RQ.out.flat hcRQ) (RV.out.flat hcRV) hs).mono ?_
    rintro e w_8 ⟨rfl, hb⟩
    have RLz := Lib.hid (RL.out.below hb RL.out.1)
    clear RL
    have RL := RLz
    clear RLz
    have RQz := Lib.hid (RQ.out.below hb RQ.out.1)
    clear RQ
    have RQ := RQz
    clear RQz
    have RVz := Lib.hid (RV.out.below hb RV.out.1)
    clear RV
    have RV := RVz
    clear RVz
    have RBz := Lib.hid (RB.out.below hb RB.out.1)
    clear RB
    have RB := RBz
    clear RBz
    have RCz := Lib.hid (RC.out.below hb RC.out.1)
    clear RC
    have RC := RCz
    clear RCz
    have BN := Lib.hid (B0.out.trans (hb.mono B0.out.size))
    clear B0
    have B0 := BN
    clear BN
    clear hb
    go_wp2_with fail
    refine (vInts_yes _ _ t _ (RB.out.flat hcRB) (RC.out.flat hcRC) ht).mono ?_
    rintro e w_9 ⟨rfl, hb⟩
    have RLz := Lib.hid (RL.out.below hb RL.out.1)
    clear RL
    have RL := RLz
    clear RLz
    have RQz := Lib.hid (RQ.out.below hb RQ.out.1)
    clear RQ
    have RQ := RQz
    clear RQz
    have RVz := Lib.hid (RV.out.below hb RV.out.1)
    clear RV
    have RV := RVz
    clear RVz
    have RBz := Lib.hid (RB.out.below hb RB.out.1)
    clear RB
    have RB := RBz
    clear RBz
    have RCz := Lib.hid (RC.out.below hb RC.out.1)
    clear RC
    have RC := RCz
    clear RCz
    have BN := Lib.hid (B0.out.trans (hb.mono B0.out.size))
    clear B0
    have B0 := BN
    clear BN
    clear hb
    clear RV RC
    clear HSI HSS HBI HBS HWI HWS
    cases okl
    case false =>
      obtain ⟨rfl, rfl, hs0⟩ := HNO.out (by first | rfl | trivial)
      have hq0 : s.length = 0 := by rw [hs0]; rfl
      clear hs0 HYES
      go_wp2_with fail
      go_ret
      exact ⟨rfl, B0.out⟩
    obtain ⟨rfl, rfl, rfl, h64, q, p, x, h, m, c, d, rfl, rfl, rfl, rfl, hqn, hqx, hhq, hp1, hq64, hin, hhm, hds, hdl, hdx⟩ := HYES.out (by first | rfl | trivial)
    have HIN := Lib.hid (fun b o c' W (hh : FlatAt W (.slice (some ⟨b, o, none⟩) li.length c') li.length (ints li)) => by have := implIns_any b o c' li W hh hnRL; rw [hin] at this; exact this)
    have HDL := Lib.hid (fun v W (hh : FlatAt W v li.length (ints li)) => by have := implSorted_any v li W hh hnRL; rw [hdl] at this; exact this)
    have HDS := Lib.hid (fun v W (hh : FlatAt W v t.length (ints t)) => by have := implSorted_any v t W hh hs; rw [hds] at this; exact this)
    have HQN := Lib.hid hqn
    have HDX := Lib.hid hdx
    clear hin hdl hds HYES HNO hqn hdx
    go_wp2_with fail
    refine (HIN.out _ _ _ _ (RL.out.flat hcRL)).mono ?_
    rintro e w_10 ⟨gRI, cRI, rfl, hcRI, hg, hrow, hb⟩
    have RLz := Lib.hid (RL.out.below hb RL.out.1)
    clear RL
    have RL := RLz
    clear RLz
    have RQz := Lib.hid (RQ.out.below hb RQ.out.1)
    clear RQ
    have RQ := RQz
    clear RQz
    have RBz := Lib.hid (RB.out.below hb RB.out.1)
    clear RB
    have RB := RBz
    clear RBz
    have BN := Lib.hid (B0.out.trans (hb.mono B0.out.size))
    clear B0
    have B0 := BN
    clear BN
    clear hcRI hrow hb hg HIN
    go_wp2_with fail
    refine (HDL.out _ _ (RL.out.flat hcRL)).mono ?_
    rintro e w_11 ⟨rfl, hb⟩
    have RLz := Lib.hid (RL.out.below hb RL.out.1)
    clear RL
    have RL := RLz
    clear RLz
    have RQz := Lib.hid (RQ.out.below hb RQ.out.1)
    clear RQ
    have RQ := RQz
    clear RQz
    have RBz := Lib.hid (RB.out.below hb RB.out.1)
    clear RB
    have RB := RBz
    clear RBz
    have BN := Lib.hid (B0.out.trans (hb.mono B0.out.size))
    clear B0
    have B0 := BN
    clear BN
    clear hb
    go_wp2_with fail
    refine (HDS.out _ _ (RQ.out.flat hcRQ)).mono ?_
    rintro e w_12 ⟨rfl, hb⟩
    have RLz := Lib.hid (RL.out.below hb RL.out.1)
    clear RL
    have RL := RLz
    clear RLz
    have RQz := Lib.hid (RQ.out.below hb RQ.out.1)
    clear RQ
    have RQ := RQz
    clear RQz
    have RBz := Lib.hid (RB.out.below hb RB.out.1)
    clear RB
    have RB := RBz
    clear RBz
    have BN := Lib.hid (B0.out.trans (hb.mono B0.out.size))
    clear B0
    have B0 := BN
    clear BN
    clear hb
    go_wp2_with fail
    refine (vInts_yes _ _ t _ (RQ.out.flat hcRQ) (RB.out.flat hcRB) hs).mono ?_
    rintro e w_13 ⟨rfl, hb⟩
    have RLz := Lib.hid (RL.out.below hb RL.out.1)
    clear RL
    have RL := RLz
    clear RLz
    have RQz := Lib.hid (RQ.out.below hb RQ.out.1)
    clear RQ
    have RQ := RQz
    clear RQz
    have RBz := Lib.hid (RB.out.below hb RB.out.1)
    clear RB
    have RB := RBz
    clear RBz
    have BN := Lib.hid (B0.out.trans (hb.mono B0.out.size))
    clear B0
    have B0 := BN
    clear BN
    clear hb
    clear RL RQ RB hcRL hcRQ hcRB hs ht hlRL hnRL HDL HDS
    generalize li.length = n at *
    have hqx' : (q : Int) ≤ (x : Int) := by omega
    have hhq' : (h : Int) ≤ 2 * (q : Int) := by omega
    have hhm' : (h : Int) ≤ (m : Int) := by omega
    have hp1' : (1 : Int) ≤ (p : Int) := by omega
    by_cases hn0 : n = 0
    · subst hn0
      have hq0 : decide ((q : Int) < 0) = false := decide_eq_false (by omega)
      clear HQN
      rcases HDX.out with ⟨rfl, rfl⟩ | ⟨k, rfl, hx0⟩
      · clear HDX
        go_wp2_with fail
        go_ret
        exact ⟨rfl, B0.out⟩
      · have hk1 : ((k : Int) == -1) = false := beq_eq_false_iff_ne.2 (by omega)
        have hx1 : ((x : Int) == 0) = false := by simp; omega
        have hx2 : ¬ x = 0 := by omega
        clear HDX
        go_wp2_with fail
        go_ret
        exact ⟨rfl, B0.out⟩
    · have hqlt : q < n := by have := HQN.out (by omega); omega
      have hqlt' : (q : Int) < (n : Int) := by omega
      clear HQN
      rcases HDX.out with ⟨rfl, rfl⟩ | ⟨k, rfl, hx0⟩
      · clear HDX
        go_wp2_with fail
        go_ret
        exact ⟨rfl, B0.out⟩
      · have hk1 : ((k : Int) == -1) = false := beq_eq_false_iff_ne.2 (by omega)
        have hx1 : ((x : Int) == 0) = false := by simp; omega
        have hx2 : ¬ x = 0 := by omega
        clear HDX
        go_wp2_with fail
        go_ret
        exact ⟨rfl, B0.out⟩

set_option maxRecDepth 100000 in
theorem lifted (os : Os) (started : os.Started) (H : Type) (enc : TypeId × Value → H) :
    ReturnsInHanded {} Try.checked os 8 .any (Rows.fnExchangesSpec.pre6 enc Try.prog Try.f8 Rows.fnExchangesRow.domain false) (Rows.fnExchangesSpec.post enc Try.prog Try.f8 false true false false) := by
  refine returnsInHanded_of_change (C := Try.checked) own started (by kernel_rfl) Try.func8
    (ChangeSpec.witness6 (enc := enc) (C := Try.checked) false ⟨#[], #[.slice none 0 0], []⟩ 8 (by kernel_rfl) (by kernel_rfl) (by kernel_rfl) (by kernel_rfl)) ?_
  intro W base args ds gs before hval0 hW hcnd _
  have hval : ∀ (j : Nat) t v, Try.f8.params[j]? = some t → args[j]? = some v → Value.okWide Try.prog W .any base t v := hval0
  have hW' := hW
  obtain ⟨p, q, hA0, hV, rfl, hfz, hnd⟩ := hW
  have hA : DataW.TrodAll enc Try.prog W 0 (fun _ => true) true Try.f8.params.toList args.toList ds p := hA0
  rw [Try.params8] at hA hval
  obtain ⟨v0, vs0, d0, ds0, p0, q0, hargs, rfl, rfl, h0, r0⟩ := trodAll_cons hA
  obtain ⟨rfl, rfl, rfl⟩ := trodAll_nil r0
  obtain rfl : args = #[v0] := by cases args; simp_all
  obtain ⟨rfl, rfl⟩ := trodVars_none hV
  obtain ⟨a0, len0, cap0, rfl⟩ := okWide_slice Try.underlying22 (hval 0 22 v0 rfl rfl)
  have k0 := h0
  have lt0 : ∀ x ∈ p0, x.block < W.heap.size := by obtain ⟨m, hm⟩ := k0; exact DataW.trod_lt m _ _ _ hm
  obtain ⟨z0, w0⟩ : ∃ zs, IsRow .u8 W a0 len0 cap0 zs := by
    obtain ⟨fuel, hf⟩ := h0
    rcases open_ints Try.underlying22 Try.underlying5 (by kernel_rfl) hf with ⟨hcs, _⟩ | ⟨x, l, c, zs, hcs, _, hl, hm, hz, _, hcell, hwz⟩
    · simp [Value.cells] at hcs
      obtain ⟨rfl, rfl, rfl⟩ := hcs
      exact ⟨[], .inl ⟨rfl, rfl, rfl, rfl⟩⟩
    · simp [Value.cells] at hcs
      obtain ⟨rfl, rfl, rfl⟩ := hcs
      exact ⟨zs, .inr ⟨_, rfl, hl, hm, by simpa using hz, hcell, hwz⟩⟩
  clear hA0 hval0
  refine (walk a0 len0 cap0 z0 W w0).mono fun e W' ⟨he, bel⟩ => ?_
  subst he
  exact ⟨_, rfl, _, _, _, [], _, [], hW', trodAll_mk1 (shut_bool Try.underlying4 _), (trodAll_cons_mk (Below.trod laidOut (by kernel_rfl) (of_decide_eq_true (by kernel_rfl)) k0 bel lt0) trodAll_mk0), rfl, bel.frame _, fun h => by cases h⟩

theorem closed : joinedFacts Try.prog 8 Try.f8 Rows.fnExchangesSpec Rows.fnExchangesRow = true := by
  unfold joinedFacts
  rw [head_enter, head_final, head_make]
  kernel_rfl

theorem over : Rows.fnExchangesRow.holds Try.pinned (OpenSpec.ofChange Rows.fnExchangesSpec) :=
  OpenClaim.holds_of_wide 8 Try.f8 rfl rfl rfl rfl rfl rfl rfl ⟨rfl, rfl, rfl, rfl, rfl⟩ rfl rfl rfl rfl rfl (by kernel_rfl) Try.func8 closed
    (of_decide_eq_true (by kernel_rfl)) (by unfold Func.isWrapper; first | (rw [if_pos (by decide +kernel)]; kernel_rfl) | (rw [if_neg (by decide +kernel)]; exact ⟨rfl, rfl⟩))
    (fun os started H enc _ => lifted os started H enc)

theorem proved : Rows.FnExchangesSaid := over
#print axioms proved
end Go.Proofs.Ytjmmhakmidddoaa.fnExchanges
