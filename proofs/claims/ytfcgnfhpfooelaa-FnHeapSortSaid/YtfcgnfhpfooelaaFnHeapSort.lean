/- FnHeapSort returns true at every input. No condition. -/
import Derived.Test.YtfcgnfhpfooelaaRows
import Derived.WalkKit
import Derived.ProofKit
import Derived.OpenShut
import Derived.ShutString
import Derived.ChangeOld
import Derived.Below
import Derived.SliceStrings
import Derived.Test.YtfcgnfhpfooelaaHead
import Derived.Test.YtfcgnfhpfooelaaIBld
import Derived.Test.YtfcgnfhpfooelaaSBld
import Derived.Test.YtfcgnfhpfooelaaDep
import Derived.Test.YtfcgnfhpfooelaaIMrg
import Derived.Test.YtfcgnfhpfooelaaSMrg
import Derived.Test.YtfcgnfhpfooelaaRetF
import Derived.Test.YtfcgnfhpfooelaaVOrd
import Derived.Test.YtfcgnfhpfooelaaVInts
import Derived.Test.YtfcgnfhpfooelaaDrawHp2
import Derived.Test.YtfcgnfhpfooelaaCode
namespace Go.Proofs.Ytfcgnfhpfooelaa.fnHeapSort
open Go.ChangeShapes Go.WideShapes Go.ChangeAt Go.RowKit
open Go.ChangeMaps (open_string shut_string)
set_option linter.unusedVariables false

theorem own : ownKnob Try.prog.godebug = none := by kernel_rfl
theorem laidOut : laidOutB Try.prog = true := by kernel_rfl

def IsRow (k : IntKind) (w : World) (a : Option Addr) (len cap : Nat) (zs : List Int) : Prop :=
  (a = none ∧ len = 0 ∧ cap = 0 ∧ zs = []) ∨
  ∃ x, a = some x ∧ len ≤ cap ∧ cap ≤ maxLen ∧ zs.length = cap ∧ (∀ i, i < zs.length → w.cell? (x.add i) = some (.int k (zs.getD i 0))) ∧ ∀ n ∈ zs, (Lit.int k n).wf = true

theorem code_of {w : World} {a : Option Addr} {len cap : Nat} {zs : List Int} (h : IsRow .u8 w a len cap zs) : Code0 w a len := by
  intro k hk
  rcases h with ⟨_, rfl, _⟩ | ⟨x, rfl, hlc, _, hz, hc, hw⟩
  · omega
  · have hkz : k < zs.length := by omega
    have hd : zs.getD k 0 = zs[k] := by simp [List.getD, hkz]
    have hm := hw zs[k] (List.getElem_mem hkz)
    have hcell := hc k hkz
    rw [hd] at hcell
    have hlt := World.block_lt_of_cell? w _ hcell
    have hbk := Go.ChangeShapes.block_add x k
    have hr := bounds_u8 hm
    exact ⟨x, zs[k], rfl, by omega, hcell, hr.1, hr.2⟩

theorem vbig_no (a : Option Addr) (len cap : Nat) (w : World) (h : len ≤ 65536) : Calls Try.prog 17 #[.slice a len cap] w fun e w' => e = .returned (.bool false) ∧ w' = w := by
  go_enter Try.func17, Try.ntmps17
  have hq : decide ((65536 : Int) < (len : Int)) = false := decide_eq_false (by omega)
  go_wp2
  go_ret
  exact ⟨by rw [← hq]; rfl, rfl⟩

set_option maxRecDepth 100000 in
set_option maxHeartbeats 40000000 in
theorem walk (a : Option Addr) (len cap : Nat) (z : List Int) (w : World) (w0 : IsRow .u8 w a len cap z) :
    Calls Try.prog 8 #[.slice a len cap] w fun e w' => e = .returned (.bool true) ∧ Below w.heap.size w w' := by
  have hlen : len ≤ maxLen := by
    rcases w0 with ⟨_, rfl, _⟩ | ⟨x, _, h1, h2, _⟩ <;> omega
  unfold maxLen at hlen
  have HCODE := Lib.hid (code_of w0)
  clear w0
  by_cases hbig : 65536 < len
  · clear HCODE
    go_enter Try.func8, Try.ntmps8
    go_wp2
    go_ret
    exact ⟨rfl, Below.refl _ _⟩
  · go_enter Try.func8, Try.ntmps8
    go_wp2_with fail
    refine (vbig_no a len cap _ (by omega)).mono ?_
    rintro e w0 ⟨rfl, rfl⟩
    clear hlen hbig
    have B0 : Hid (Below w0.heap.size w0 w0) := Lib.hid (Below.refl _ _)
    have HCODE0 := HCODE
    go_wp2_with fail
    refine (drawHeapSort_any a len cap _ HCODE.out).mono ?_
    rintro e w_1 ⟨gRL, cRL, li, d, hlRL, hd1, hd9, rfl, hcRL, hgl, hrow, hb⟩
    have RL := Lib.hid hrow
    have hnRL : li.length ≤ 1048576 := by omega
    have BN := Lib.hid (B0.out.trans (hb.mono B0.out.size))
    clear B0
    have B0 := BN
    clear BN
    clear hrow hb HCODE hgl
    obtain ⟨S, q, okl, hS⟩ : ∃ x y b, Hp.hsAll li (d : Int) = (x, y, b) := ⟨_, _, _, rfl⟩
    have HI := Lib.hid (fun b o c W (h : FlatAt W (.slice (some ⟨b, o, none⟩) li.length c) li.length (ints li)) => by have := (implHs_any (some ⟨b, o, none⟩) c li (d : Int) W ⟨h, fun e => by simp at e⟩ hnRL).mono fun e w2 hq => hq.flat; rw [hS] at this; exact this)
    have HSP := Lib.hid (fun b o c W (h : FlatAt W (.slice (some ⟨b, o, none⟩) li.length c) li.length (ints li)) => by have := (specHs_any b o c li (d : Int) W h hnRL).mono fun e w2 hq => hq.flat; rw [hS] at this; exact this)
    have hs : S.length ≤ 1048576 := by have := Hp.hsAll_len li (d : Int); rw [hS] at this; exact this
    have HYS : Hid (okl = true → li.length ≤ 64 ∧ S = El.srt li) := Lib.hid (fun hk => by
      by_cases h : OkL li ∧ Hp.OkD (d : Int)
      · rw [Hp.hsAll_yes h] at hS
        simp only [Prod.mk.injEq] at hS
        have hh := Hp.hs_sorted (d := (d : Int).toNat) h.2.pos li
        refine ⟨h.1.1, ?_⟩
        rw [← hS.1]
        exact El.srt_uniq hh.2 hh.1
      · rw [Hp.hsAll_no h] at hS; simp only [Prod.mk.injEq] at hS; rw [← hS.2.2] at hk; cases hk)
    clear hS
    go_wp2_with fail
    refine (HI.out _ _ _ _ (RL.out.flat hcRL)).mono ?_
    rintro e w_2 ⟨aRQ, cRQ, rfl, hf, hb⟩
    simp only at hf
    have hyRQ := Lib.hid hf
    have RLz := Lib.hid (RL.out.below hb RL.out.1)
    clear RL
    have RL := RLz
    clear RLz
    have BN := Lib.hid (B0.out.trans (hb.mono B0.out.size))
    clear B0
    have B0 := BN
    clear BN
    have RQ := hyRQ
    clear hyRQ hf hb
    go_wp2_with fail
    refine (HSP.out _ _ _ _ (RL.out.flat hcRL)).mono ?_
    rintro e w_3 ⟨aRW, cRW, rfl, hf, hb⟩
    simp only at hf
    have hyRW := Lib.hid hf
    have RQz := Lib.hid (RQ.out.below hb)
    clear RQ
    have RQ := RQz
    clear RQz
    have RLz := Lib.hid (RL.out.below hb RL.out.1)
    clear RL
    have RL := RLz
    clear RLz
    have BN := Lib.hid (B0.out.trans (hb.mono B0.out.size))
    clear B0
    have B0 := BN
    clear BN
    have RW := hyRW
    clear hyRW hf hb
    go_wp2_with fail
    refine (vInts_yes _ _ S _ RQ.out RW.out hs).mono ?_
    rintro e w_4 ⟨rfl, hb⟩
    have RQz := Lib.hid (RQ.out.below hb)
    clear RQ
    have RQ := RQz
    clear RQz
    have RWz := Lib.hid (RW.out.below hb)
    clear RW
    have RW := RWz
    clear RWz
    have RLz := Lib.hid (RL.out.below hb RL.out.1)
    clear RL
    have RL := RLz
    clear RLz
    have BN := Lib.hid (B0.out.trans (hb.mono B0.out.size))
    clear B0
    have B0 := BN
    clear BN
    clear hb
    clear RW
    clear HI HSP
    cases okl
    case false =>
      clear HYS
      have HCODE := Lib.hid (HCODE0.out.below B0.out)
      go_wp2_with fail
      refine (drawHeapDepth_any a len cap _ HCODE.out).mono ?_
      rintro e w_5 ⟨n, dn, hn1, hn2, hdn1, hdn9, rfl, hb⟩
      have RQz := Lib.hid (RQ.out.below hb)
      clear RQ
      have RQ := RQz
      clear RQz
      have RLz := Lib.hid (RL.out.below hb RL.out.1)
      clear RL
      have RL := RLz
      clear RLz
      have BN := Lib.hid (B0.out.trans (hb.mono B0.out.size))
      clear B0
      have B0 := BN
      clear BN
      clear hb HCODE
      have HDI := Lib.hid (fun W => implDep_any n (dn : Int) W)
      have HDS := Lib.hid (fun W => specDep_any n (dn : Int) W)
      generalize Hp.depAll n (dn : Int) = D at HDI HDS
      obtain ⟨D1, D2⟩ := D
      go_wp2_with fail
      refine (HDI.out _).mono ?_
      rintro e w_6 ⟨rfl, hb⟩
      have RQz := Lib.hid (RQ.out.below hb)
      clear RQ
      have RQ := RQz
      clear RQz
      have RLz := Lib.hid (RL.out.below hb RL.out.1)
      clear RL
      have RL := RLz
      clear RLz
      have BN := Lib.hid (B0.out.trans (hb.mono B0.out.size))
      clear B0
      have B0 := BN
      clear BN
      clear hb
      go_wp2_with fail
      refine (HDS.out _).mono ?_
      rintro e w_7 ⟨rfl, hb⟩
      have RQz := Lib.hid (RQ.out.below hb)
      clear RQ
      have RQ := RQz
      clear RQz
      have RLz := Lib.hid (RL.out.below hb RL.out.1)
      clear RL
      have RL := RLz
      clear RLz
      have BN := Lib.hid (B0.out.trans (hb.mono B0.out.size))
      clear B0
      have B0 := BN
      clear BN
      clear hb
      clear HDI HDS
      have HCODE := Lib.hid (HCODE0.out.below B0.out)
      clear HCODE0
      go_wp2_with fail
      refine (drawMergeHeaps_any a len cap _ HCODE.out).mono ?_
      rintro e w_8 ⟨gRA, cRA, la, gRB, cRB, lb, dm, hlRA, hlRB, hdm1, hdm9, rfl, hcRA, hga, hra, hcRB, hgb, hrb, hb⟩
      have RA := Lib.hid hra
      have RB := Lib.hid hrb
      have hnRA : la.length ≤ 1048576 := by omega
      have hnRB : lb.length ≤ 1048576 := by omega
      have RQz := Lib.hid (RQ.out.below hb)
      clear RQ
      have RQ := RQz
      clear RQz
      have RLz := Lib.hid (RL.out.below hb RL.out.1)
      clear RL
      have RL := RLz
      clear RLz
      have BN := Lib.hid (B0.out.trans (hb.mono B0.out.size))
      clear B0
      have B0 := BN
      clear BN
      clear hra hrb hb HCODE hga hgb
      obtain ⟨M, k, fine, hM⟩ : ∃ x y b, Hp.mrgAll la lb (dm : Int) = (x, y, b) := ⟨_, _, _, rfl⟩
      have HI := Lib.hid (fun b o c b2 o2 c2 W (h : FlatAt W (.slice (some ⟨b, o, none⟩) la.length c) la.length (ints la)) (h2 : FlatAt W (.slice (some ⟨b2, o2, none⟩) lb.length c2) lb.length (ints lb)) => by have := (implMrg_any b o c la b2 o2 c2 lb (dm : Int) W h hnRA h2 hnRB).mono fun e w2 hq => hq.flat; rw [hM] at this; exact this)
      have HSP := Lib.hid (fun b o c b2 o2 c2 W (h : FlatAt W (.slice (some ⟨b, o, none⟩) la.length c) la.length (ints la)) (h2 : FlatAt W (.slice (some ⟨b2, o2, none⟩) lb.length c2) lb.length (ints lb)) => by have := (specMrg_any b o c la b2 o2 c2 lb (dm : Int) W h hnRA h2 hnRB).mono fun e w2 hq => hq.flat; rw [hM] at this; exact this)
      have hm : M.length ≤ 1048576 := by have := Hp.mrgAll_len la lb (dm : Int); rw [hM] at this; exact this
      have HYS : Hid ((fine = true → M.length = la.length + lb.length ∧ Hp.isAll M (dm : Int) = (-1, true)) ∧ (fine = false → M = [])) := Lib.hid (by
        by_cases h : Hp.IsHp la (dm : Int) ∧ Hp.IsHp lb (dm : Int) ∧ OkL (la ++ lb)
        · rw [Hp.mrgAll_yes h] at hM
          simp only [Prod.mk.injEq] at hM
          refine ⟨fun _ => ?_, (fun hk => by rw [← hM.2.2] at hk; cases hk)⟩
          have hd0 : 0 < (dm : Int).toNat := h.1.2.1.pos
          have hp := Hp.buildF_perm hd0 (la ++ lb)
          have hh := Hp.buildF_heap hd0 (la ++ lb)
          have hl := Hp.buildF_length hd0 (la ++ lb)
          rw [hM.1] at hp hh hl
          refine ⟨by rw [hl]; simp, Hp.isAll_heap.1 ⟨⟨by rw [hl]; exact h.2.2.1, fun x hx => h.2.2.2 x (hp.mem_iff.1 hx)⟩, h.1.2.1, by rw [hl]; exact hh⟩⟩
        · rw [Hp.mrgAll_no h] at hM
          simp only [Prod.mk.injEq] at hM
          exact ⟨(fun hk => by rw [← hM.2.2] at hk; cases hk), fun _ => hM.1.symm⟩)
      have HIS := Lib.hid (fun v W (h : FlatAt W v M.length (ints M)) => implIsHeap_any v M (dm : Int) W h hm)
      clear hM
      go_wp2_with fail
      refine (HI.out _ _ _ _ _ _ _ (RA.out.flat hcRA) (RB.out.flat hcRB)).mono ?_
      rintro e w_9 ⟨aRM, cRM, rfl, hf, hb⟩
      simp only at hf
      have hyRM := Lib.hid hf
      have RQz := Lib.hid (RQ.out.below hb)
      clear RQ
      have RQ := RQz
      clear RQz
      have RLz := Lib.hid (RL.out.below hb RL.out.1)
      clear RL
      have RL := RLz
      clear RLz
      have RAz := Lib.hid (RA.out.below hb RA.out.1)
      clear RA
      have RA := RAz
      clear RAz
      have RBz := Lib.hid (RB.out.below hb RB.out.1)
      clear RB
      have RB := RBz
      clear RBz
      have BN := Lib.hid (B0.out.trans (hb.mono B0.out.size))
      clear B0
      have B0 := BN
      clear BN
      have RM := hyRM
      clear hyRM hf hb
      go_wp2_with fail
      refine (HSP.out _ _ _ _ _ _ _ (RA.out.flat hcRA) (RB.out.flat hcRB)).mono ?_
      rintro e w_10 ⟨aRX, cRX, rfl, hf, hb⟩
      simp only at hf
      have hyRX := Lib.hid hf
      have RQz := Lib.hid (RQ.out.below hb)
      clear RQ
      have RQ := RQz
      clear RQz
      have RMz := Lib.hid (RM.out.below hb)
      clear RM
      have RM := RMz
      clear RMz
      have RLz := Lib.hid (RL.out.below hb RL.out.1)
      clear RL
      have RL := RLz
      clear RLz
      have RAz := Lib.hid (RA.out.below hb RA.out.1)
      clear RA
      have RA := RAz
      clear RAz
      have RBz := Lib.hid (RB.out.below hb RB.out.1)
      clear RB
      have RB := RBz
      clear RBz
      have BN := Lib.hid (B0.out.trans (hb.mono B0.out.size))
      clear B0
      have B0 := BN
      clear BN
      have RX := hyRX
      clear hyRX hf hb
      go_wp2_with fail
      refine (vInts_yes _ _ M _ RM.out RX.out hm).mono ?_
      rintro e w_11 ⟨rfl, hb⟩
      have RQz := Lib.hid (RQ.out.below hb)
      clear RQ
      have RQ := RQz
      clear RQz
      have RMz := Lib.hid (RM.out.below hb)
      clear RM
      have RM := RMz
      clear RMz
      have RXz := Lib.hid (RX.out.below hb)
      clear RX
      have RX := RXz
      clear RXz
      have RLz := Lib.hid (RL.out.below hb RL.out.1)
      clear RL
      have RL := RLz
      clear RLz
      have RAz := Lib.hid (RA.out.below hb RA.out.1)
      clear RA
      have RA := RAz
      clear RAz
      have RBz := Lib.hid (RB.out.below hb RB.out.1)
      clear RB
      have RB := RBz
      clear RBz
      have BN := Lib.hid (B0.out.trans (hb.mono B0.out.size))
      clear B0
      have B0 := BN
      clear BN
      clear hb
      clear RX
      clear HI HSP
      cases fine
      case false =>
        obtain rfl := HYS.out.2 (by first | rfl | trivial)
        clear HYS HIS
        go_wp2_with fail
        go_ret
        exact ⟨rfl, B0.out⟩
      obtain ⟨hml, hmi⟩ := HYS.out.1 (by first | rfl | trivial)
      rw [hmi] at HIS
      have HML := Lib.hid hml
      have hmz : (M.length : Int) = (la.length : Int) + (lb.length : Int) := by omega
      clear HYS hmi hml
      have HMZ := Lib.hid hmz
      clear hmz
      go_wp2_with fail
      refine (HIS.out _ _ RM.out).mono ?_
      rintro e w_12 ⟨rfl, hb⟩
      have RQz := Lib.hid (RQ.out.below hb)
      clear RQ
      have RQ := RQz
      clear RQz
      have RMz := Lib.hid (RM.out.below hb)
      clear RM
      have RM := RMz
      clear RMz
      have RLz := Lib.hid (RL.out.below hb RL.out.1)
      clear RL
      have RL := RLz
      clear RLz
      have RAz := Lib.hid (RA.out.below hb RA.out.1)
      clear RA
      have RA := RAz
      clear RAz
      have RBz := Lib.hid (RB.out.below hb RB.out.1)
      clear RB
      have RB := RBz
      clear RBz
      have BN := Lib.hid (B0.out.trans (hb.mono B0.out.size))
      clear B0
      have B0 := BN
      clear BN
      clear hb
      have hmz := HMZ.out
      have hla : la.length ≤ 66 := hlRA
      have hlb : lb.length ≤ 66 := hlRB
      go_wp2_with fail
      go_ret
      exact ⟨rfl, B0.out⟩
    obtain ⟨h64, hse⟩ := HYS.out (by first | rfl | trivial)
    have HVO := Lib.hid (fun b o c W (h : FlatAt W (.slice (some ⟨b, o, none⟩) li.length c) li.length (ints li)) => by have := vOrdered_any b o c li W h h64; rw [← hse] at this; exact this)
    clear hse HYS
    go_wp2_with fail
    refine (HVO.out _ _ _ _ (RL.out.flat hcRL)).mono ?_
    rintro e w_13 ⟨gRO, cRO, rfl, hcRO, hg, hrow, hb⟩
    have hyRO := Lib.hid hrow
    have RQz := Lib.hid (RQ.out.below hb)
    clear RQ
    have RQ := RQz
    clear RQz
    have RLz := Lib.hid (RL.out.below hb RL.out.1)
    clear RL
    have RL := RLz
    clear RLz
    have BN := Lib.hid (B0.out.trans (hb.mono B0.out.size))
    clear B0
    have B0 := BN
    clear BN
    have RO := hyRO
    clear hyRO hrow hb hg HVO
    go_wp2_with fail
    refine (vInts_yes _ _ S _ RQ.out (RO.out.flat hcRO) hs).mono ?_
    rintro e w_14 ⟨rfl, hb⟩
    have RQz := Lib.hid (RQ.out.below hb)
    clear RQ
    have RQ := RQz
    clear RQz
    have RLz := Lib.hid (RL.out.below hb RL.out.1)
    clear RL
    have RL := RLz
    clear RLz
    have ROz := Lib.hid (RO.out.below hb RO.out.1)
    clear RO
    have RO := ROz
    clear ROz
    have BN := Lib.hid (B0.out.trans (hb.mono B0.out.size))
    clear B0
    have B0 := BN
    clear BN
    clear hb
    clear RO RQ
    have HCODE := Lib.hid (HCODE0.out.below B0.out)
    go_wp2_with fail
    refine (drawHeapDepth_any a len cap _ HCODE.out).mono ?_
    rintro e w_15 ⟨n, dn, hn1, hn2, hdn1, hdn9, rfl, hb⟩
    have RLz := Lib.hid (RL.out.below hb RL.out.1)
    clear RL
    have RL := RLz
    clear RLz
    have BN := Lib.hid (B0.out.trans (hb.mono B0.out.size))
    clear B0
    have B0 := BN
    clear BN
    clear hb HCODE
    have HDI := Lib.hid (fun W => implDep_any n (dn : Int) W)
    have HDS := Lib.hid (fun W => specDep_any n (dn : Int) W)
    generalize Hp.depAll n (dn : Int) = D at HDI HDS
    obtain ⟨D1, D2⟩ := D
    go_wp2_with fail
    refine (HDI.out _).mono ?_
    rintro e w_16 ⟨rfl, hb⟩
    have RLz := Lib.hid (RL.out.below hb RL.out.1)
    clear RL
    have RL := RLz
    clear RLz
    have BN := Lib.hid (B0.out.trans (hb.mono B0.out.size))
    clear B0
    have B0 := BN
    clear BN
    clear hb
    go_wp2_with fail
    refine (HDS.out _).mono ?_
    rintro e w_17 ⟨rfl, hb⟩
    have RLz := Lib.hid (RL.out.below hb RL.out.1)
    clear RL
    have RL := RLz
    clear RLz
    have BN := Lib.hid (B0.out.trans (hb.mono B0.out.size))
    clear B0
    have B0 := BN
    clear BN
    clear hb
    clear HDI HDS
    have HCODE := Lib.hid (HCODE0.out.below B0.out)
    clear HCODE0
    go_wp2_with fail
    refine (drawMergeHeaps_any a len cap _ HCODE.out).mono ?_
    rintro e w_18 ⟨gRA, cRA, la, gRB, cRB, lb, dm, hlRA, hlRB, hdm1, hdm9, rfl, hcRA, hga, hra, hcRB, hgb, hrb, hb⟩
    have RA := Lib.hid hra
    have RB := Lib.hid hrb
    have hnRA : la.length ≤ 1048576 := by omega
    have hnRB : lb.length ≤ 1048576 := by omega
    have RLz := Lib.hid (RL.out.below hb RL.out.1)
    clear RL
    have RL := RLz
    clear RLz
    have BN := Lib.hid (B0.out.trans (hb.mono B0.out.size))
    clear B0
    have B0 := BN
    clear BN
    clear hra hrb hb HCODE hga hgb
    obtain ⟨M, k, fine, hM⟩ : ∃ x y b, Hp.mrgAll la lb (dm : Int) = (x, y, b) := ⟨_, _, _, rfl⟩
    have HI := Lib.hid (fun b o c b2 o2 c2 W (h : FlatAt W (.slice (some ⟨b, o, none⟩) la.length c) la.length (ints la)) (h2 : FlatAt W (.slice (some ⟨b2, o2, none⟩) lb.length c2) lb.length (ints lb)) => by have := (implMrg_any b o c la b2 o2 c2 lb (dm : Int) W h hnRA h2 hnRB).mono fun e w2 hq => hq.flat; rw [hM] at this; exact this)
    have HSP := Lib.hid (fun b o c b2 o2 c2 W (h : FlatAt W (.slice (some ⟨b, o, none⟩) la.length c) la.length (ints la)) (h2 : FlatAt W (.slice (some ⟨b2, o2, none⟩) lb.length c2) lb.length (ints lb)) => by have := (specMrg_any b o c la b2 o2 c2 lb (dm : Int) W h hnRA h2 hnRB).mono fun e w2 hq => hq.flat; rw [hM] at this; exact this)
    have hm : M.length ≤ 1048576 := by have := Hp.mrgAll_len la lb (dm : Int); rw [hM] at this; exact this
    have HYS : Hid ((fine = true → M.length = la.length + lb.length ∧ Hp.isAll M (dm : Int) = (-1, true)) ∧ (fine = false → M = [])) := Lib.hid (by
      by_cases h : Hp.IsHp la (dm : Int) ∧ Hp.IsHp lb (dm : Int) ∧ OkL (la ++ lb)
      · rw [Hp.mrgAll_yes h] at hM
        simp only [Prod.mk.injEq] at hM
        refine ⟨fun _ => ?_, (fun hk => by rw [← hM.2.2] at hk; cases hk)⟩
        have hd0 : 0 < (dm : Int).toNat := h.1.2.1.pos
        have hp := Hp.buildF_perm hd0 (la ++ lb)
        have hh := Hp.buildF_heap hd0 (la ++ lb)
        have hl := Hp.buildF_length hd0 (la ++ lb)
        rw [hM.1] at hp hh hl
        refine ⟨by rw [hl]; simp, Hp.isAll_heap.1 ⟨⟨by rw [hl]; exact h.2.2.1, fun x hx => h.2.2.2 x (hp.mem_iff.1 hx)⟩, h.1.2.1, by rw [hl]; exact hh⟩⟩
      · rw [Hp.mrgAll_no h] at hM
        simp only [Prod.mk.injEq] at hM
        exact ⟨(fun hk => by rw [← hM.2.2] at hk; cases hk), fun _ => hM.1.symm⟩)
    have HIS := Lib.hid (fun v W (h : FlatAt W v M.length (ints M)) => implIsHeap_any v M (dm : Int) W h hm)
    clear hM
    go_wp2_with fail
    refine (HI.out _ _ _ _ _ _ _ (RA.out.flat hcRA) (RB.out.flat hcRB)).mono ?_
    rintro e w_19 ⟨aRM, cRM, rfl, hf, hb⟩
    simp only at hf
    have hyRM := Lib.hid hf
    have RLz := Lib.hid (RL.out.below hb RL.out.1)
    clear RL
    have RL := RLz
    clear RLz
    have RAz := Lib.hid (RA.out.below hb RA.out.1)
    clear RA
    have RA := RAz
    clear RAz
    have RBz := Lib.hid (RB.out.below hb RB.out.1)
    clear RB
    have RB := RBz
    clear RBz
    have BN := Lib.hid (B0.out.trans (hb.mono B0.out.size))
    clear B0
    have B0 := BN
    clear BN
    have RM := hyRM
    clear hyRM hf hb
    go_wp2_with fail
    refine (HSP.out _ _ _ _ _ _ _ (RA.out.flat hcRA) (RB.out.flat hcRB)).mono ?_
    rintro e w_20 ⟨aRX, cRX, rfl, hf, hb⟩
    simp only at hf
    have hyRX := Lib.hid hf
    have RMz := Lib.hid (RM.out.below hb)
    clear RM
    have RM := RMz
    clear RMz
    have RLz := Lib.hid (RL.out.below hb RL.out.1)
    clear RL
    have RL := RLz
    clear RLz
    have RAz := Lib.hid (RA.out.below hb RA.out.1)
    clear RA
    have RA := RAz
    clear RAz
    have RBz := Lib.hid (RB.out.below hb RB.out.1)
    clear RB
    have RB := RBz
    clear RBz
    have BN := Lib.hid (B0.out.trans (hb.mono B0.out.size))
    clear B0
    have B0 := BN
    clear BN
    have RX := hyRX
    clear hyRX hf hb
    go_wp2_with fail
    refine (vInts_yes _ _ M _ RM.out RX.out hm).mono ?_
    rintro e w_21 ⟨rfl, hb⟩
    have RMz := Lib.hid (RM.out.below hb)
    clear RM
    have RM := RMz
    clear RMz
    have RXz := Lib.hid (RX.out.below hb)
    clear RX
    have RX := RXz
    clear RXz
    have RLz := Lib.hid (RL.out.below hb RL.out.1)
    clear RL
    have RL := RLz
    clear RLz
    have RAz := Lib.hid (RA.out.below hb RA.out.1)
    clear RA
    have RA := RAz
    clear RAz
    have RBz := Lib.hid (RB.out.below hb RB.out.1)
    clear RB
    have RB := RBz
    clear RBz
    have BN := Lib.hid (B0.out.trans (hb.mono B0.out.size))
    clear B0
    have B0 := BN
    clear BN
    clear hb
    clear RX
    clear HI HSP
    cases fine
    case false =>
      obtain rfl := HYS.out.2 (by first | rfl | trivial)
      clear HYS HIS
      go_wp2_with fail
      go_ret
      exact ⟨rfl, B0.out⟩
    obtain ⟨hml, hmi⟩ := HYS.out.1 (by first | rfl | trivial)
    rw [hmi] at HIS
    have HML := Lib.hid hml
    have hmz : (M.length : Int) = (la.length : Int) + (lb.length : Int) := by omega
    clear HYS hmi hml
    have HMZ := Lib.hid hmz
    clear hmz
    go_wp2_with fail
    refine (HIS.out _ _ RM.out).mono ?_
    rintro e w_22 ⟨rfl, hb⟩
    have RMz := Lib.hid (RM.out.below hb)
    clear RM
    have RM := RMz
    clear RMz
    have RLz := Lib.hid (RL.out.below hb RL.out.1)
    clear RL
    have RL := RLz
    clear RLz
    have RAz := Lib.hid (RA.out.below hb RA.out.1)
    clear RA
    have RA := RAz
    clear RAz
    have RBz := Lib.hid (RB.out.below hb RB.out.1)
    clear RB
    have RB := RBz
    clear RBz
    have BN := Lib.hid (B0.out.trans (hb.mono B0.out.size))
    clear B0
    have B0 := BN
    clear BN
    clear hb
    have hmz := HMZ.out
    have hla : la.length ≤ 66 := hlRA
    have hlb : lb.length ≤ 66 := hlRB
    go_wp2_with fail
    go_ret
    exact ⟨rfl, B0.out⟩

set_option maxRecDepth 100000 in
theorem lifted (os : Os) (started : os.Started) (H : Type) (enc : TypeId × Value → H) :
    ReturnsInHanded {} Try.checked os 8 .any (Rows.fnHeapSortSpec.pre6 enc Try.prog Try.f8 Rows.fnHeapSortRow.domain false) (Rows.fnHeapSortSpec.post enc Try.prog Try.f8 false true false false) := by
  refine returnsInHanded_of_change (C := Try.checked) own started (by kernel_rfl) Try.func8
    (ChangeSpec.witness6 (enc := enc) (C := Try.checked) false ⟨#[], #[.slice none 0 0], []⟩ 8 (by kernel_rfl) (by kernel_rfl) (by kernel_rfl) (by kernel_rfl)) ?_
  intro W base args ds gs before hval0 hW hcnd _
  have hval : ∀ (j : Nat) t v, Try.f8.params[j]? = some t → args[j]? = some v → Value.okWide Try.prog W .any base t v := hval0
  have hW' := hW
  obtain ⟨p, q, hA0, hV, rfl, hfz, hnd⟩ := hW
  have hA : DataW.TrodAll enc Try.prog W 0 (fun _ => true) true Try.f8.params.toList args.toList ds p := hA0
  rw [Try.params8] at hA hval
  obtain ⟨v0, vs0, d0, ds0, p0, q0, hargs, rfl, rfl, h0, r0⟩ := trodAll_cons hA
  obtain ⟨rfl, rfl, rfl⟩ := trodAll_nil r0
  obtain rfl : args = #[v0] := by cases args; simp_all
  obtain ⟨rfl, rfl⟩ := trodVars_none hV
  obtain ⟨a0, len0, cap0, rfl⟩ := okWide_slice Try.underlying22 (hval 0 22 v0 rfl rfl)
  have k0 := h0
  have lt0 : ∀ x ∈ p0, x.block < W.heap.size := by obtain ⟨m, hm⟩ := k0; exact DataW.trod_lt m _ _ _ hm
  obtain ⟨z0, w0⟩ : ∃ zs, IsRow .u8 W a0 len0 cap0 zs := by
    obtain ⟨fuel, hf⟩ := h0
    rcases open_ints Try.underlying22 Try.underlying5 (by kernel_rfl) hf with ⟨hcs, _⟩ | ⟨x, l, c, zs, hcs, _, hl, hm, hz, _, hcell, hwz⟩
    · simp [Value.cells] at hcs
      obtain ⟨rfl, rfl, rfl⟩ := hcs
      exact ⟨[], .inl ⟨rfl, rfl, rfl, rfl⟩⟩
    · simp [Value.cells] at hcs
      obtain ⟨rfl, rfl, rfl⟩ := hcs
      exact ⟨zs, .inr ⟨_, rfl, hl, hm, by simpa using hz, hcell, hwz⟩⟩
  clear hA0 hval0
  refine (walk a0 len0 cap0 z0 W w0).mono fun e W' ⟨he, bel⟩ => ?_
  subst he
  exact ⟨_, rfl, _, _, _, [], _, [], hW', trodAll_mk1 (shut_bool Try.underlying4 _), (trodAll_cons_mk (Below.trod laidOut (by kernel_rfl) (of_decide_eq_true (by kernel_rfl)) k0 bel lt0) trodAll_mk0), rfl, bel.frame _, fun h => by cases h⟩

theorem closed : joinedFacts Try.prog 8 Try.f8 Rows.fnHeapSortSpec Rows.fnHeapSortRow = true := by
  unfold joinedFacts
  rw [head_enter, head_final, head_make]
  kernel_rfl

theorem over : Rows.fnHeapSortRow.holds Try.pinned (OpenSpec.ofChange Rows.fnHeapSortSpec) :=
  OpenClaim.holds_of_wide 8 Try.f8 rfl rfl rfl rfl rfl rfl rfl ⟨rfl, rfl, rfl, rfl, rfl⟩ rfl rfl rfl rfl rfl (by kernel_rfl) Try.func8 closed
    (of_decide_eq_true (by kernel_rfl)) (by unfold Func.isWrapper; first | (rw [if_pos (by decide +kernel)]; kernel_rfl) | (rw [if_neg (by decide +kernel)]; exact ⟨rfl, rfl⟩))
    (fun os started H enc _ => lifted os started H enc)

theorem proved : Rows.FnHeapSortSaid := over
#print axioms proved
end Go.Proofs.Ytfcgnfhpfooelaa.fnHeapSort
