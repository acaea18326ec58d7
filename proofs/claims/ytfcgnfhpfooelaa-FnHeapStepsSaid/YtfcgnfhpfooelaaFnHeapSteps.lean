/- FnHeapSteps returns true at every input. No condition. -/
import Derived.Test.YtfcgnfhpfooelaaRows
import Derived.WalkKit
import Derived.ProofKit
import Derived.OpenShut
import Derived.ShutString
import Derived.ChangeOld
import Derived.Below
import Derived.SliceStrings
import Derived.Test.YtfcgnfhpfooelaaHead
import Derived.Test.YtfcgnfhpfooelaaSnoc
import Derived.Test.YtfcgnfhpfooelaaVOrdW
import Derived.Test.YtfcgnfhpfooelaaRetF
import Derived.Test.YtfcgnfhpfooelaaVInts
import Derived.Test.YtfcgnfhpfooelaaDrawHp2
import Derived.Test.YtfcgnfhpfooelaaCode
import Derived.Test.YtfcgnfhpfooelaaIPush
import Derived.Test.YtfcgnfhpfooelaaSPush
import Derived.Test.YtfcgnfhpfooelaaIPop2
import Derived.Test.YtfcgnfhpfooelaaSRep
import Derived.Test.YtfcgnfhpfooelaaDep
namespace Go.Proofs.Ytfcgnfhpfooelaa.fnHeapSteps
open Go.ChangeShapes Go.WideShapes Go.ChangeAt Go.RowKit
open Go.ChangeMaps (open_string shut_string)
set_option linter.unusedVariables false

theorem own : ownKnob Try.prog.godebug = none := by kernel_rfl
theorem laidOut : laidOutB Try.prog = true := by kernel_rfl

def IsRow (k : IntKind) (w : World) (a : Option Addr) (len cap : Nat) (zs : List Int) : Prop :=
  (a = none ∧ len = 0 ∧ cap = 0 ∧ zs = []) ∨
  ∃ x, a = some x ∧ len ≤ cap ∧ cap ≤ maxLen ∧ zs.length = cap ∧ (∀ i, i < zs.length → w.cell? (x.add i) = some (.int k (zs.getD i 0))) ∧ ∀ n ∈ zs, (Lit.int k n).wf = true

theorem code_of {w : World} {a : Option Addr} {len cap : Nat} {zs : List Int} (h : IsRow .u8 w a len cap zs) : Code0 w a len := by
  intro k hk
  rcases h with ⟨_, rfl, _⟩ | ⟨x, rfl, hlc, _, hz, hc, hw⟩
  · omega
  · have hkz : k < zs.length := by omega
    have hd : zs.getD k 0 = zs[k] := by simp [List.getD, hkz]
    have hm := hw zs[k] (List.getElem_mem hkz)
    have hcell := hc k hkz
    rw [hd] at hcell
    have hlt := World.block_lt_of_cell? w _ hcell
    have hbk := Go.ChangeShapes.block_add x k
    have hr := bounds_u8 hm
    exact ⟨x, zs[k], rfl, by omega, hcell, hr.1, hr.2⟩

theorem vbig_no (a : Option Addr) (len cap : Nat) (w : World) (h : len ≤ 65536) : Calls Try.prog 17 #[.slice a len cap] w fun e w' => e = .returned (.bool false) ∧ w' = w := by
  go_enter Try.func17, Try.ntmps17
  have hq : decide ((65536 : Int) < (len : Int)) = false := decide_eq_false (by omega)
  go_wp2
  go_ret
  exact ⟨by rw [← hq]; rfl, rfl⟩

set_option maxRecDepth 100000 in
set_option maxHeartbeats 40000000 in
attribute [local go_sem ↓ high] builtin_append_held in
theorem walk (a : Option Addr) (len cap : Nat) (z : List Int) (w : World) (w0 : IsRow .u8 w a len cap z) :
    Calls Try.prog 7 #[.slice a len cap] w fun e w' => e = .returned (.bool true) ∧ Below w.heap.size w w' := by
  have hlen : len ≤ maxLen := by
    rcases w0 with ⟨_, rfl, _⟩ | ⟨x, _, h1, h2, _⟩ <;> omega
  unfold maxLen at hlen
  have HCODE := Lib.hid (code_of w0)
  clear w0
  by_cases hbig : 65536 < len
  · clear HCODE
    go_enter Try.func7, Try.ntmps7
    go_wp2
    go_ret
    exact ⟨rfl, Below.refl _ _⟩
  · go_enter Try.func7, Try.ntmps7
    go_wp2_with fail
    refine (vbig_no a len cap _ (by omega)).mono ?_
    rintro e w0 ⟨rfl, rfl⟩
    clear hlen hbig
    have B0 : Hid (Below w0.heap.size w0 w0) := Lib.hid (Below.refl _ _)
    have HCODE0 := HCODE
    go_wp2_with fail
    refine (drawPushHeap_any a len cap _ HCODE.out).mono ?_
    rintro e w_1 ⟨gRL, cRL, li, d, x, hlRL, hd1, hd9, hx1, hx2, rfl, hcRL, hgl, hrow, hb⟩
    have RL := Lib.hid hrow
    have hnRL : li.length ≤ 1048576 := by omega
    have BN := Lib.hid (B0.out.trans (hb.mono B0.out.size))
    clear B0
    have B0 := BN
    clear BN
    clear hrow hb HCODE hgl
    obtain ⟨S, q, okl, hS⟩ : ∃ x1 y b, Hp.pushAll li (d : Int) x = (x1, y, b) := ⟨_, _, _, rfl⟩
    obtain ⟨R, t, fine, hR⟩ : ∃ x1 y b, Hp.repAll li (d : Int) x = (x1, y, b) := ⟨_, _, _, rfl⟩
    have HI := Lib.hid (fun b o c W (h : FlatAt W (.slice (some ⟨b, o, none⟩) li.length c) li.length (ints li)) => by have := implPush_any b o c li (d : Int) x W h hnRL; rw [hS] at this; exact this)
    have HSP := Lib.hid (fun b o c W (h : FlatAt W (.slice (some ⟨b, o, none⟩) li.length c) li.length (ints li)) => by have := specPush_any b o c li (d : Int) x W h hnRL; rw [hS] at this; exact this)
    have HRI := Lib.hid (fun b o c W (h : FlatAt W (.slice (some ⟨b, o, none⟩) li.length c) li.length (ints li)) => by have := implRep_any b o c li (d : Int) x W h hnRL; rw [hR] at this; exact this)
    have HRS := Lib.hid (fun b o c W (h : FlatAt W (.slice (some ⟨b, o, none⟩) li.length c) li.length (ints li)) => by have := specRep_any b o c li (d : Int) x W h hnRL; rw [hR] at this; exact this)
    have hs : S.length ≤ 1048576 := by have := Hp.pushAll_len li (d : Int) x; rw [hS] at this; exact this
    have hr : R.length ≤ 1048576 := by have := Hp.repAll_len li (d : Int) x; rw [hR] at this; exact this
    have HYS : Hid (okl = true → S.length ≤ 64 ∧ li.length ≤ 64 ∧ Hp.isAll S (d : Int) = (-1, true) ∧ El.srt S = El.srt (li ++ [x]) ∧ ∃ D : Int, Hp.depAll (S.length : Int) (d : Int) = (D, true) ∧ decide (D < q) = false) := Lib.hid (fun hk => by
      by_cases h : Hp.IsHp li (d : Int) ∧ OkL (li ++ [x])
      · rw [Hp.pushAll_yes h] at hS
        simp only [Prod.mk.injEq] at hS
        have hd0 : 0 < (d : Int).toNat := h.1.2.1.pos
        have hp := Hp.push_perm hd0 li x
        have hh := Hp.push_heap hd0 (x := x) h.1.2.2
        have hl := Hp.pushF_length hd0 li x
        have hc := Hp.push_count hd0 li x
        have hdl := Hp.dep_le hd0 li.length li.length (Nat.le_refl _)
        rw [hS.1] at hp hh hl
        have h64 := h.1.1.1
        have h65 := h.2.1
        have h65' : li.length + 1 ≤ 64 := by simpa using h65
        refine ⟨by omega, h64, Hp.isAll_heap.1 ⟨⟨by omega, fun y hy => h.2.2 y (hp.mem_iff.1 hy)⟩, h.1.2.1, hh⟩, El.srt_uniq (El.srt_asc S) ((El.srt_perm S).trans hp), ((Hp.dep (d : Int).toNat li.length : Nat) : Int), ?_, by rw [← hS.2.1]; exact decide_eq_false (by omega)⟩
        have h3 := h.1.2.1
        unfold Hp.depAll
        rw [if_pos ⟨by omega, by omega, h3⟩, hl]; rfl
      · rw [Hp.pushAll_no h] at hS; simp only [Prod.mk.injEq] at hS; rw [← hS.2.2] at hk; cases hk)
    have HYR : Hid (fine = true → R.length ≤ 64 ∧ li.length ≤ 64 ∧ Hp.isAll R (d : Int) = (-1, true) ∧ El.srt (R ++ [t]) = El.srt (li ++ [x])) := Lib.hid (fun hk => by
      by_cases h : Hp.IsHp li (d : Int) ∧ 0 < li.length ∧ -100000 ≤ x ∧ x ≤ 100000
      · rw [Hp.repAll_yes h] at hR
        simp only [Prod.mk.injEq] at hR
        have hd0 : 0 < (d : Int).toNat := h.1.2.1.pos
        have hp := Hp.rep_perm hd0 (x := x) h.2.1
        have hh := Hp.rep_heap hd0 (x := x) h.2.1 h.1.2.2
        have hl := Hp.repF_length hd0 li x
        rw [hR.1] at hp hh hl
        rw [hR.2.1] at hp
        have h64 := h.1.1.1
        refine ⟨by omega, h64, Hp.isAll_heap.1 ⟨⟨by omega, fun y hy => ?_⟩, h.1.2.1, hh⟩, El.srt_uniq (El.srt_asc _) ((El.srt_perm _).trans hp)⟩
        have hm := hp.mem_iff.1 (List.mem_append_left [t] hy)
        rcases List.mem_append.1 hm with hm | hm
        · exact h.1.1.2 y hm
        · rw [List.mem_singleton.1 hm]; exact h.2.2
      · rw [Hp.repAll_no h] at hR; simp only [Prod.mk.injEq] at hR; rw [← hR.2.2] at hk; cases hk)
    clear hS hR
    go_wp2_with fail
    refine (HI.out _ _ _ _ (RL.out.flat hcRL)).mono ?_
    rintro e w_2 ⟨gRQ, cRQ, rfl, hcRQ, hg, hrow, hb⟩
    simp only at hcRQ hrow
    have hyRQ := Lib.hid hrow
    have RLz := Lib.hid (RL.out.below hb RL.out.1)
    clear RL
    have RL := RLz
    clear RLz
    have BN := Lib.hid (B0.out.trans (hb.mono B0.out.size))
    clear B0
    have B0 := BN
    clear BN
    have RQ := hyRQ
    clear hyRQ hrow hb hg
    go_wp2_with fail
    refine (HSP.out _ _ _ _ (RL.out.flat hcRL)).mono ?_
    rintro e w_3 ⟨gRW, cRW, rfl, hcRW, hg, hrow, hb⟩
    simp only at hcRW hrow
    have hyRW := Lib.hid hrow
    have RLz := Lib.hid (RL.out.below hb RL.out.1)
    clear RL
    have RL := RLz
    clear RLz
    have RQz := Lib.hid (RQ.out.below hb RQ.out.1)
    clear RQ
    have RQ := RQz
    clear RQz
    have BN := Lib.hid (B0.out.trans (hb.mono B0.out.size))
    clear B0
    have B0 := BN
    clear BN
    have RW := hyRW
    clear hyRW hrow hb hg
    go_wp2_with fail
    refine (HRI.out _ _ _ _ (RL.out.flat hcRL)).mono ?_
    rintro e w_4 ⟨gRR, cRR, rfl, hcRR, hg, hrow, hb⟩
    simp only at hcRR hrow
    have hyRR := Lib.hid hrow
    have RLz := Lib.hid (RL.out.below hb RL.out.1)
    clear RL
    have RL := RLz
    clear RLz
    have RQz := Lib.hid (RQ.out.below hb RQ.out.1)
    clear RQ
    have RQ := RQz
    clear RQz
    have RWz := Lib.hid (RW.out.below hb RW.out.1)
    clear RW
    have RW := RWz
    clear RWz
    have BN := Lib.hid (B0.out.trans (hb.mono B0.out.size))
    clear B0
    have B0 := BN
    clear BN
    have RR := hyRR
    clear hyRR hrow hb hg
    go_wp2_with fail
    refine (HRS.out _ _ _ _ (RL.out.flat hcRL)).mono ?_
    rintro e w_5 ⟨gRV, cRV, rfl, hcRV, hg, hrow, hb⟩
    simp only at hcRV hrow
    have hyRV := Lib.hid hrow
    have RLz := Lib.hid (RL.out.below hb RL.out.1)
    clear RL
    have RL := RLz
    clear RLz
    have RQz := Lib.hid (RQ.out.below hb RQ.out.1)
    clear RQ
    have RQ := RQz
    clear RQz
    have RWz := Lib.hid (RW.out.below hb RW.out.1)
    clear RW
    have RW := RWz
    clear RWz
    have RRz := Lib.hid (RR.out.below hb RR.out.1)
    clear RR
    have RR := RRz
    clear RRz
    have BN := Lib.hid (B0.out.trans (hb.mono B0.out.size))
    clear B0
    have B0 := BN
    clear BN
    have RV := hyRV
    clear hyRV hrow hb hg
    go_wp2_with fail
    refine (vInts_yes _ _ S _ (RQ.out.flat hcRQ) (RW.out.flat hcRW) hs).mono ?_
    rintro e w_6 ⟨rfl, hb⟩
    have RLz := Lib.hid (RL.out.below hb RL.out.1)
    clear RL
    have RL := RLz
    clear RLz
    have RQz := Lib.hid (RQ.out.below hb RQ.out.1)
    clear RQ
    have RQ := RQz
    clear RQz
    have RWz := Lib.hid (RW.out.below hb RW.out.1)
    clear RW
    have RW := RWz
    clear RWz
    have RRz := Lib.hid (RR.out.below hb RR.out.1)
    clear RR
    have RR := RRz
    clear RRz
    have RVz := Lib.hid (RV.out.below hb RV.out.1)
    clear RV
    have RV := RVz
    clear RVz
    have BN := Lib.hid (B0.out.trans (hb.mono B0.out.size))
    clear B0
    have B0 := BN
    clear BN
    clear hb
    clear RW
    go_wp2_with fail
    refine (vInts_yes _ _ R _ (RR.out.flat hcRR) (RV.out.flat hcRV) hr).mono ?_
    rintro e w_7 ⟨rfl, hb⟩
    have RLz := Lib.hid (RL.out.below hb RL.out.1)
    clear RL
    have RL := RLz
    clear RLz
    have RQz := Lib.hid (RQ.out.below hb RQ.out.1)
    clear RQ
    have RQ := RQz
    clear RQz
    have RRz := Lib.hid (RR.out.below hb RR.out.1)
    clear RR
    have RR := RRz
    clear RRz
    have RVz := Lib.hid (RV.out.below hb RV.out.1)
    clear RV
    have RV := RVz
    clear RVz
    have BN := Lib.hid (B0.out.trans (hb.mono B0.out.size))
    clear B0
    have B0 := BN
    clear BN
    clear hb
    clear RV
    clear HI HSP HRI HRS
    have HCODE := Lib.hid (HCODE0.out.below B0.out)
    clear HCODE0
    go_wp2_with fail
    refine (drawPopHeap_any a len cap _ HCODE.out).mono ?_
    rintro e w_8 ⟨gRG, cRG, lg, dg, hlRG, hdg1, hdg9, rfl, hcRG, hgl, hrow, hb⟩
    have RG := Lib.hid hrow
    have hnRG : lg.length ≤ 1048576 := by omega
    have RLz := Lib.hid (RL.out.below hb RL.out.1)
    clear RL
    have RL := RLz
    clear RLz
    have RQz := Lib.hid (RQ.out.below hb RQ.out.1)
    clear RQ
    have RQ := RQz
    clear RQz
    have RRz := Lib.hid (RR.out.below hb RR.out.1)
    clear RR
    have RR := RRz
    clear RRz
    have BN := Lib.hid (B0.out.trans (hb.mono B0.out.size))
    clear B0
    have B0 := BN
    clear BN
    clear hrow hb HCODE hgl
    obtain ⟨G, mx, mn, pk, hG⟩ : ∃ x1 y z b, Hp.popAll lg (dg : Int) = (x1, y, z, b) := ⟨_, _, _, _, rfl⟩
    have HI := Lib.hid (fun v W (h : FlatAt W v lg.length (ints lg)) => by have := (implPop_any v lg (dg : Int) W h hnRG).mono fun e w2 hq => hq.flat; rw [hG] at this; exact this)
    have HSP := Lib.hid (fun b o c W (h : FlatAt W (.slice (some ⟨b, o, none⟩) lg.length c) lg.length (ints lg)) => by have := (specPop_any b o c lg (dg : Int) W h hnRG).mono fun e w2 hq => hq.flat; rw [hG] at this; exact this)
    have hgn : G.length ≤ 1048576 := by have := Hp.popAll_len lg (dg : Int); rw [hG] at this; exact this
    clear hG
    go_wp2_with fail
    refine (HI.out _ _ (RG.out.flat hcRG)).mono ?_
    rintro e w_9 ⟨aRM, cRM, rfl, hf, hb⟩
    simp only at hf
    have hyRM := Lib.hid hf
    have RLz := Lib.hid (RL.out.below hb RL.out.1)
    clear RL
    have RL := RLz
    clear RLz
    have RQz := Lib.hid (RQ.out.below hb RQ.out.1)
    clear RQ
    have RQ := RQz
    clear RQz
    have RRz := Lib.hid (RR.out.below hb RR.out.1)
    clear RR
    have RR := RRz
    clear RRz
    have RGz := Lib.hid (RG.out.below hb RG.out.1)
    clear RG
    have RG := RGz
    clear RGz
    have BN := Lib.hid (B0.out.trans (hb.mono B0.out.size))
    clear B0
    have B0 := BN
    clear BN
    have RM := hyRM
    clear hyRM hf hb
    go_wp2_with fail
    refine (HSP.out _ _ _ _ (RG.out.flat hcRG)).mono ?_
    rintro e w_10 ⟨aRX, cRX, rfl, hf, hb⟩
    simp only at hf
    have hyRX := Lib.hid hf
    have RMz := Lib.hid (RM.out.below hb)
    clear RM
    have RM := RMz
    clear RMz
    have RLz := Lib.hid (RL.out.below hb RL.out.1)
    clear RL
    have RL := RLz
    clear RLz
    have RQz := Lib.hid (RQ.out.below hb RQ.out.1)
    clear RQ
    have RQ := RQz
    clear RQz
    have RRz := Lib.hid (RR.out.below hb RR.out.1)
    clear RR
    have RR := RRz
    clear RRz
    have RGz := Lib.hid (RG.out.below hb RG.out.1)
    clear RG
    have RG := RGz
    clear RGz
    have BN := Lib.hid (B0.out.trans (hb.mono B0.out.size))
    clear B0
    have B0 := BN
    clear BN
    have RX := hyRX
    clear hyRX hf hb
    go_wp2_with fail
    refine (vInts_yes _ _ G _ RM.out RX.out hgn).mono ?_
    rintro e w_11 ⟨rfl, hb⟩
    have RMz := Lib.hid (RM.out.below hb)
    clear RM
    have RM := RMz
    clear RMz
    have RXz := Lib.hid (RX.out.below hb)
    clear RX
    have RX := RXz
    clear RXz
    have RLz := Lib.hid (RL.out.below hb RL.out.1)
    clear RL
    have RL := RLz
    clear RLz
    have RQz := Lib.hid (RQ.out.below hb RQ.out.1)
    clear RQ
    have RQ := RQz
    clear RQz
    have RRz := Lib.hid (RR.out.below hb RR.out.1)
    clear RR
    have RR := RRz
    clear RRz
    have RGz := Lib.hid (RG.out.below hb RG.out.1)
    clear RG
    have RG := RGz
    clear RGz
    have BN := Lib.hid (B0.out.trans (hb.mono B0.out.size))
    clear B0
    have B0 := BN
    clear BN
    clear hb
    clear RX RM RG
    clear HI HSP
    go_upto_if 145 with fail
    go_cut [28, 29, 30, 31] from 145 to 186 (fun _ _ _ _ wx => Below w0.heap.size w0 wx ∧ CellRow wx gRL (ints li) ∧ CellRow wx gRR (ints R))
    case first =>
      clear HYR
      cases okl
      case false =>
        clear HYS
        go_wp2_with fail
        go_meet
        exact ⟨B0.out, RL.out, RR.out⟩
      obtain ⟨h64s, h64l, hmi, hse, D, hdep, hqz⟩ := HYS.out (by first | rfl | trivial)
      have HIS := Lib.hid (fun v W (h : FlatAt W v S.length (ints S)) => by have := implIsHeap_any v S (d : Int) W h hs; rw [hmi] at this; exact this)
      have HDI := Lib.hid (fun W => by have := implDep_any (S.length : Int) (d : Int) W; rw [hdep] at this; exact this)
      clear HYS hmi hdep
      obtain ⟨LC, hLC⟩ : ∃ z, z = li ++ [x] := ⟨_, rfl⟩
      have hLCl : LC.length ≤ 128 := by rw [hLC]; simp; omega
      have HLLC : Hid (LC.length = li.length + 1) := Lib.hid (by rw [hLC]; simp)
      have HLC := Lib.hid hLC
      rw [← hLC] at hse
      obtain ⟨SB, hSB⟩ : ∃ z, z = El.srt LC := ⟨_, rfl⟩
      have hsbl : SB.length ≤ 1048576 := by rw [hSB, El.srt_length]; omega
      have HVA := Lib.hid (fun b o c W (h : FlatAt W (.slice (some ⟨b, o, none⟩) S.length c) S.length (ints S)) => by have := vOrderedW_any b o c S W h (by omega); rw [hse, ← hSB] at this; exact this)
      have HVB := Lib.hid (fun b o c W (h : FlatAt W (.slice (some ⟨b, o, none⟩) LC.length c) LC.length (ints LC)) => by have := vOrderedW_any b o c LC W h hLCl; rw [← hSB] at this; exact this)
      clear hse hSB hLC
      go_wp2_with fail
      refine (HIS.out _ _ (RQ.out.flat hcRQ)).mono ?_
      rintro e w_12 ⟨rfl, hb⟩
      have RLz := Lib.hid (RL.out.below hb RL.out.1)
      clear RL
      have RL := RLz
      clear RLz
      have RQz := Lib.hid (RQ.out.below hb RQ.out.1)
      clear RQ
      have RQ := RQz
      clear RQz
      have RRz := Lib.hid (RR.out.below hb RR.out.1)
      clear RR
      have RR := RRz
      clear RRz
      have BN := Lib.hid (B0.out.trans (hb.mono B0.out.size))
      clear B0
      have B0 := BN
      clear BN
      clear hb
      clear HIS
      go_wp2_with fail
      refine (HDI.out _).mono ?_
      rintro e w_13 ⟨rfl, hb⟩
      have RLz := Lib.hid (RL.out.below hb RL.out.1)
      clear RL
      have RL := RLz
      clear RLz
      have RQz := Lib.hid (RQ.out.below hb RQ.out.1)
      clear RQ
      have RQ := RQz
      clear RQz
      have RRz := Lib.hid (RR.out.below hb RR.out.1)
      clear RR
      have RR := RRz
      clear RRz
      have BN := Lib.hid (B0.out.trans (hb.mono B0.out.size))
      clear B0
      have B0 := BN
      clear BN
      clear hb
      clear HDI
      go_wp2_with fail
      refine (HVA.out _ _ _ _ (RQ.out.flat hcRQ)).mono ?_
      rintro e w_14 ⟨gRS, cRS, rfl, hcRS, hg, hrow, hb⟩
      have hyRS := Lib.hid hrow
      have RLz := Lib.hid (RL.out.below hb RL.out.1)
      clear RL
      have RL := RLz
      clear RLz
      have RQz := Lib.hid (RQ.out.below hb RQ.out.1)
      clear RQ
      have RQ := RQz
      clear RQz
      have RRz := Lib.hid (RR.out.below hb RR.out.1)
      clear RR
      have RR := RRz
      clear RRz
      have BN := Lib.hid (B0.out.trans (hb.mono B0.out.size))
      clear B0
      have B0 := BN
      clear BN
      have RS := hyRS
      clear hyRS hrow hb hg
      clear HVA
      obtain ⟨g1RC, c1RC, w1RC, gRC, cRC, w_15, hrun1RC, hrun2RC, hrow, hcRC, hb⟩ := snoc_runs gRL cRL li x w_14 RL.out (by omega)
      rw [← HLC.out] at hrun2RC hrow hcRC
      have hyRC := Lib.hid hrow
      have RLz := Lib.hid (RL.out.below hb RL.out.1)
      clear RL
      have RL := RLz
      clear RLz
      have RQz := Lib.hid (RQ.out.below hb RQ.out.1)
      clear RQ
      have RQ := RQz
      clear RQz
      have RRz := Lib.hid (RR.out.below hb RR.out.1)
      clear RR
      have RR := RRz
      clear RRz
      have RSz := Lib.hid (RS.out.below hb RS.out.1)
      clear RS
      have RS := RSz
      clear RSz
      have BN := Lib.hid (B0.out.trans (hb.mono B0.out.size))
      clear B0
      have B0 := BN
      clear BN
      have RC := hyRC
      clear hyRC hrow hb
      go_wp2_with fail
      refine (HVB.out _ _ _ _ (RC.out.flat hcRC)).mono ?_
      rintro e w_16 ⟨gRT, cRT, rfl, hcRT, hg, hrow, hb⟩
      have hyRT := Lib.hid hrow
      have RLz := Lib.hid (RL.out.below hb RL.out.1)
      clear RL
      have RL := RLz
      clear RLz
      have RQz := Lib.hid (RQ.out.below hb RQ.out.1)
      clear RQ
      have RQ := RQz
      clear RQz
      have RRz := Lib.hid (RR.out.below hb RR.out.1)
      clear RR
      have RR := RRz
      clear RRz
      have RSz := Lib.hid (RS.out.below hb RS.out.1)
      clear RS
      have RS := RSz
      clear RSz
      have RCz := Lib.hid (RC.out.below hb RC.out.1)
      clear RC
      have RC := RCz
      clear RCz
      have BN := Lib.hid (B0.out.trans (hb.mono B0.out.size))
      clear B0
      have B0 := BN
      clear BN
      have RT := hyRT
      clear hyRT hrow hb hg
      clear hrun1RC hrun2RC
      clear HVB
      go_wp2_with fail
      refine (vInts_yes _ _ SB _ (RS.out.flat hcRS) (RT.out.flat hcRT) hsbl).mono ?_
      rintro e w_17 ⟨rfl, hb⟩
      have RLz := Lib.hid (RL.out.below hb RL.out.1)
      clear RL
      have RL := RLz
      clear RLz
      have RQz := Lib.hid (RQ.out.below hb RQ.out.1)
      clear RQ
      have RQ := RQz
      clear RQz
      have RRz := Lib.hid (RR.out.below hb RR.out.1)
      clear RR
      have RR := RRz
      clear RRz
      have RSz := Lib.hid (RS.out.below hb RS.out.1)
      clear RS
      have RS := RSz
      clear RSz
      have RCz := Lib.hid (RC.out.below hb RC.out.1)
      clear RC
      have RC := RCz
      clear RCz
      have RTz := Lib.hid (RT.out.below hb RT.out.1)
      clear RT
      have RT := RTz
      clear RTz
      have BN := Lib.hid (B0.out.trans (hb.mono B0.out.size))
      clear B0
      have B0 := BN
      clear BN
      clear hb
      go_wp2_with fail
      go_meet
      exact ⟨B0.out, RL.out, RR.out⟩
    case rest =>
      clear B0 RL RR RQ HYS
      obtain ⟨hb1, hb2, hb3⟩ := hcut
      have B0 := Lib.hid hb1
      have RL := Lib.hid hb2
      have RR := Lib.hid hb3
      clear hb1 hb2 hb3
      cases fine
      case false =>
        clear HYR
        go_wp2_with fail
        go_ret
        exact ⟨rfl, B0.out⟩
      obtain ⟨h64r, h64l, hmi, hse⟩ := HYR.out (by first | rfl | trivial)
      have HIS := Lib.hid (fun v W (h : FlatAt W v R.length (ints R)) => by have := implIsHeap_any v R (d : Int) W h hr; rw [hmi] at this; exact this)
      clear HYR hmi
      obtain ⟨LA, hLA⟩ : ∃ z, z = R ++ [t] := ⟨_, rfl⟩
      have hLAl : LA.length ≤ 128 := by rw [hLA]; simp; omega
      have HLLA : Hid (LA.length = R.length + 1) := Lib.hid (by rw [hLA]; simp)
      have HLA := Lib.hid hLA
      obtain ⟨LB, hLB⟩ : ∃ z, z = li ++ [x] := ⟨_, rfl⟩
      have hLBl : LB.length ≤ 128 := by rw [hLB]; simp; omega
      have HLLB : Hid (LB.length = li.length + 1) := Lib.hid (by rw [hLB]; simp)
      have HLB := Lib.hid hLB
      rw [← hLA, ← hLB] at hse
      obtain ⟨SB, hSB⟩ : ∃ z, z = El.srt LB := ⟨_, rfl⟩
      have hsbl : SB.length ≤ 1048576 := by rw [hSB, El.srt_length]; omega
      have HVA := Lib.hid (fun b o c W (h : FlatAt W (.slice (some ⟨b, o, none⟩) LA.length c) LA.length (ints LA)) => by have := vOrderedW_any b o c LA W h hLAl; rw [hse, ← hSB] at this; exact this)
      have HVB := Lib.hid (fun b o c W (h : FlatAt W (.slice (some ⟨b, o, none⟩) LB.length c) LB.length (ints LB)) => by have := vOrderedW_any b o c LB W h hLBl; rw [← hSB] at this; exact this)
      clear hse hSB hLA hLB
      go_wp2_with fail
      refine (HIS.out _ _ (RR.out.flat hcRR)).mono ?_
      rintro e w_18 ⟨rfl, hb⟩
      have RLz := Lib.hid (RL.out.below hb RL.out.1)
      clear RL
      have RL := RLz
      clear RLz
      have RRz := Lib.hid (RR.out.below hb RR.out.1)
      clear RR
      have RR := RRz
      clear RRz
      have BN := Lib.hid (B0.out.trans (hb.mono B0.out.size))
      clear B0
      have B0 := BN
      clear BN
      clear hb
      clear HIS
      obtain ⟨g1RA, c1RA, w1RA, gRA, cRA, w_19, hrun1RA, hrun2RA, hrow, hcRA, hb⟩ := snoc_runs gRR cRR R t w_18 RR.out (by omega)
      rw [← HLA.out] at hrun2RA hrow hcRA
      have hyRA := Lib.hid hrow
      have RLz := Lib.hid (RL.out.below hb RL.out.1)
      clear RL
      have RL := RLz
      clear RLz
      have RRz := Lib.hid (RR.out.below hb RR.out.1)
      clear RR
      have RR := RRz
      clear RRz
      have BN := Lib.hid (B0.out.trans (hb.mono B0.out.size))
      clear B0
      have B0 := BN
      clear BN
      have RA := hyRA
      clear hyRA hrow hb
      go_wp2_with fail
      refine (HVA.out _ _ _ _ (RA.out.flat hcRA)).mono ?_
      rintro e w_20 ⟨gRO, cRO, rfl, hcRO, hg, hrow, hb⟩
      have hyRO := Lib.hid hrow
      have RLz := Lib.hid (RL.out.below hb RL.out.1)
      clear RL
      have RL := RLz
      clear RLz
      have RRz := Lib.hid (RR.out.below hb RR.out.1)
      clear RR
      have RR := RRz
      clear RRz
      have RAz := Lib.hid (RA.out.below hb RA.out.1)
      clear RA
      have RA := RAz
      clear RAz
      have BN := Lib.hid (B0.out.trans (hb.mono B0.out.size))
      clear B0
      have B0 := BN
      clear BN
      have RO := hyRO
      clear hyRO hrow hb hg
      clear hrun1RA hrun2RA
      clear HVA
      obtain ⟨g1RB, c1RB, w1RB, gRB, cRB, w_21, hrun1RB, hrun2RB, hrow, hcRB, hb⟩ := snoc_runs gRL cRL li x w_20 RL.out (by omega)
      rw [← HLB.out] at hrun2RB hrow hcRB
      have hyRB := Lib.hid hrow
      have RLz := Lib.hid (RL.out.below hb RL.out.1)
      clear RL
      have RL := RLz
      clear RLz
      have RRz := Lib.hid (RR.out.below hb RR.out.1)
      clear RR
      have RR := RRz
      clear RRz
      have RAz := Lib.hid (RA.out.below hb RA.out.1)
      clear RA
      have RA := RAz
      clear RAz
      have ROz := Lib.hid (RO.out.below hb RO.out.1)
      clear RO
      have RO := ROz
      clear ROz
      have BN := Lib.hid (B0.out.trans (hb.mono B0.out.size))
      clear B0
      have B0 := BN
      clear BN
      have RB := hyRB
      clear hyRB hrow hb
      go_wp2_with fail
      refine (HVB.out _ _ _ _ (RB.out.flat hcRB)).mono ?_
      rintro e w_22 ⟨gRP, cRP, rfl, hcRP, hg, hrow, hb⟩
      have hyRP := Lib.hid hrow
      have RLz := Lib.hid (RL.out.below hb RL.out.1)
      clear RL
      have RL := RLz
      clear RLz
      have RRz := Lib.hid (RR.out.below hb RR.out.1)
      clear RR
      have RR := RRz
      clear RRz
      have RAz := Lib.hid (RA.out.below hb RA.out.1)
      clear RA
      have RA := RAz
      clear RAz
      have ROz := Lib.hid (RO.out.below hb RO.out.1)
      clear RO
      have RO := ROz
      clear ROz
      have RBz := Lib.hid (RB.out.below hb RB.out.1)
      clear RB
      have RB := RBz
      clear RBz
      have BN := Lib.hid (B0.out.trans (hb.mono B0.out.size))
      clear B0
      have B0 := BN
      clear BN
      have RP := hyRP
      clear hyRP hrow hb hg
      clear hrun1RB hrun2RB
      clear HVB
      go_wp2_with fail
      refine (vInts_yes _ _ SB _ (RO.out.flat hcRO) (RP.out.flat hcRP) hsbl).mono ?_
      rintro e w_23 ⟨rfl, hb⟩
      have RLz := Lib.hid (RL.out.below hb RL.out.1)
      clear RL
      have RL := RLz
      clear RLz
      have RRz := Lib.hid (RR.out.below hb RR.out.1)
      clear RR
      have RR := RRz
      clear RRz
      have RAz := Lib.hid (RA.out.below hb RA.out.1)
      clear RA
      have RA := RAz
      clear RAz
      have ROz := Lib.hid (RO.out.below hb RO.out.1)
      clear RO
      have RO := ROz
      clear ROz
      have RBz := Lib.hid (RB.out.below hb RB.out.1)
      clear RB
      have RB := RBz
      clear RBz
      have RPz := Lib.hid (RP.out.below hb RP.out.1)
      clear RP
      have RP := RPz
      clear RPz
      have BN := Lib.hid (B0.out.trans (hb.mono B0.out.size))
      clear B0
      have B0 := BN
      clear BN
      clear hb
      go_wp2_with fail
      go_ret
      exact ⟨rfl, B0.out⟩

set_option maxRecDepth 100000 in
theorem lifted (os : Os) (started : os.Started) (H : Type) (enc : TypeId × Value → H) :
    ReturnsInHanded {} Try.checked os 7 .any (Rows.fnHeapStepsSpec.pre6 enc Try.prog Try.f7 Rows.fnHeapStepsRow.domain false) (Rows.fnHeapStepsSpec.post enc Try.prog Try.f7 false true false false) := by
  refine returnsInHanded_of_change (C := Try.checked) own started (by kernel_rfl) Try.func7
    (ChangeSpec.witness6 (enc := enc) (C := Try.checked) false ⟨#[], #[.slice none 0 0], []⟩ 8 (by kernel_rfl) (by kernel_rfl) (by kernel_rfl) (by kernel_rfl)) ?_
  intro W base args ds gs before hval0 hW hcnd _
  have hval : ∀ (j : Nat) t v, Try.f7.params[j]? = some t → args[j]? = some v → Value.okWide Try.prog W .any base t v := hval0
  have hW' := hW
  obtain ⟨p, q, hA0, hV, rfl, hfz, hnd⟩ := hW
  have hA : DataW.TrodAll enc Try.prog W 0 (fun _ => true) true Try.f7.params.toList args.toList ds p := hA0
  rw [Try.params7] at hA hval
  obtain ⟨v0, vs0, d0, ds0, p0, q0, hargs, rfl, rfl, h0, r0⟩ := trodAll_cons hA
  obtain ⟨rfl, rfl, rfl⟩ := trodAll_nil r0
  obtain rfl : args = #[v0] := by cases args; simp_all
  obtain ⟨rfl, rfl⟩ := trodVars_none hV
  obtain ⟨a0, len0, cap0, rfl⟩ := okWide_slice Try.underlying22 (hval 0 22 v0 rfl rfl)
  have k0 := h0
  have lt0 : ∀ x ∈ p0, x.block < W.heap.size := by obtain ⟨m, hm⟩ := k0; exact DataW.trod_lt m _ _ _ hm
  obtain ⟨z0, w0⟩ : ∃ zs, IsRow .u8 W a0 len0 cap0 zs := by
    obtain ⟨fuel, hf⟩ := h0
    rcases open_ints Try.underlying22 Try.underlying5 (by kernel_rfl) hf with ⟨hcs, _⟩ | ⟨x, l, c, zs, hcs, _, hl, hm, hz, _, hcell, hwz⟩
    · simp [Value.cells] at hcs
      obtain ⟨rfl, rfl, rfl⟩ := hcs
      exact ⟨[], .inl ⟨rfl, rfl, rfl, rfl⟩⟩
    · simp [Value.cells] at hcs
      obtain ⟨rfl, rfl, rfl⟩ := hcs
      exact ⟨zs, .inr ⟨_, rfl, hl, hm, by simpa using hz, hcell, hwz⟩⟩
  clear hA0 hval0
  refine (walk a0 len0 cap0 z0 W w0).mono fun e W' ⟨he, bel⟩ => ?_
  subst he
  exact ⟨_, rfl, _, _, _, [], _, [], hW', trodAll_mk1 (shut_bool Try.underlying4 _), (trodAll_cons_mk (Below.trod laidOut (by kernel_rfl) (of_decide_eq_true (by kernel_rfl)) k0 bel lt0) trodAll_mk0), rfl, bel.frame _, fun h => by cases h⟩

theorem closed : joinedFacts Try.prog 7 Try.f7 Rows.fnHeapStepsSpec Rows.fnHeapStepsRow = true := by
  unfold joinedFacts
  rw [head_enter, head_final, head_make]
  kernel_rfl

theorem over : Rows.fnHeapStepsRow.holds Try.pinned (OpenSpec.ofChange Rows.fnHeapStepsSpec) :=
  OpenClaim.holds_of_wide 7 Try.f7 rfl rfl rfl rfl rfl rfl rfl ⟨rfl, rfl, rfl, rfl, rfl⟩ rfl rfl rfl rfl rfl (by kernel_rfl) Try.func7 closed
    (of_decide_eq_true (by kernel_rfl)) (by unfold Func.isWrapper; first | (rw [if_pos (by decide +kernel)]; kernel_rfl) | (rw [if_neg (by decide +kernel)]; exact ⟨rfl, rfl⟩))
    (fun os started H enc _ => lifted os started H enc)

theorem proved : Rows.FnHeapStepsSaid := over
#print axioms proved
end Go.Proofs.Ytfcgnfhpfooelaa.fnHeapSteps
