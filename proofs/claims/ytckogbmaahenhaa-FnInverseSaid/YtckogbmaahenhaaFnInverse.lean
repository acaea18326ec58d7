/- FnInverse returns true at every input. No condition. -/
import Derived.Test.YtckogbmaahenhaaRows
import Derived.WalkKit
import Derived.ProofKit
import Derived.OpenShut
import Derived.ShutString
import Derived.ChangeOld
import Derived.Below
import Derived.SliceStrings
import Derived.Test.YtckogbmaahenhaaHead
import Derived.Test.YtckogbmaahenhaaIInv
import Derived.Test.YtckogbmaahenhaaIComp
import Derived.Test.YtckogbmaahenhaaSComp
import Derived.Test.YtckogbmaahenhaaVInts
import Derived.Test.YtckogbmaahenhaaDrawAp
import Derived.Test.YtckogbmaahenhaaCode
namespace Go.Proofs.Ytckogbmaahenhaa.fnInverse
open Go.ChangeShapes Go.WideShapes Go.ChangeAt Go.RowKit
open Go.ChangeMaps (open_string shut_string)
set_option linter.unusedVariables false

theorem own : ownKnob Try.prog.godebug = none := by kernel_rfl
theorem laidOut : laidOutB Try.prog = true := by kernel_rfl

def IsRow (k : IntKind) (w : World) (a : Option Addr) (len cap : Nat) (zs : List Int) : Prop :=
  (a = none ∧ len = 0 ∧ cap = 0 ∧ zs = []) ∨
  ∃ x, a = some x ∧ len ≤ cap ∧ cap ≤ maxLen ∧ zs.length = cap ∧ (∀ i, i < zs.length → w.cell? (x.add i) = some (.int k (zs.getD i 0))) ∧ ∀ n ∈ zs, (Lit.int k n).wf = true

theorem code_of {w : World} {a : Option Addr} {len cap : Nat} {zs : List Int} (h : IsRow .u8 w a len cap zs) : Code0 w a len := by
  intro k hk
  rcases h with ⟨_, rfl, _⟩ | ⟨x, rfl, hlc, _, hz, hc, hw⟩
  · omega
  · have hkz : k < zs.length := by omega
    have hd : zs.getD k 0 = zs[k] := by simp [List.getD, hkz]
    have hm := hw zs[k] (List.getElem_mem hkz)
    have hcell := hc k hkz
    rw [hd] at hcell
    have hlt := World.block_lt_of_cell? w _ hcell
    have hbk := Go.ChangeShapes.block_add x k
    have hr := bounds_u8 hm
    exact ⟨x, zs[k], rfl, by omega, hcell, hr.1, hr.2⟩

theorem vbig_no (a : Option Addr) (len cap : Nat) (w : World) (h : len ≤ 65536) : Calls Try.prog 20 #[.slice a len cap] w fun e w' => e = .returned (.bool false) ∧ w' = w := by
  go_enter Try.func20, Try.ntmps20
  have hq : decide ((65536 : Int) < (len : Int)) = false := decide_eq_false (by omega)
  go_wp2
  go_ret
  exact ⟨by rw [← hq]; rfl, rfl⟩

set_option maxRecDepth 100000 in
set_option maxHeartbeats 40000000 in
theorem walk (a : Option Addr) (len cap : Nat) (z : List Int) (w : World) (w0 : IsRow .u8 w a len cap z) :
    Calls Try.prog 3 #[.slice a len cap] w fun e w' => e = .returned (.bool true) ∧ Below w.heap.size w w' := by
  have hlen : len ≤ maxLen := by
    rcases w0 with ⟨_, rfl, _⟩ | ⟨x, _, h1, h2, _⟩ <;> omega
  unfold maxLen at hlen
  have HCODE := Lib.hid (code_of w0)
  clear w0
  by_cases hbig : 65536 < len
  · clear HCODE
    go_enter Try.func3, Try.ntmps3
    go_wp2
    go_ret
    exact ⟨rfl, Below.refl _ _⟩
  · go_enter Try.func3, Try.ntmps3
    go_wp2_with fail
    refine (vbig_no a len cap _ (by omega)).mono ?_
    rintro e w0 ⟨rfl, rfl⟩
    clear hlen hbig
    have B0 : Hid (Below w0.heap.size w0 w0) := Lib.hid (Below.refl _ _)
    have HCODE0 := HCODE
    go_wp2_with fail
    refine (drawInv_any a len cap _ HCODE.out).mono ?_
    rintro e w_1 ⟨gRP, cRP, p, hlRP, rfl, hcRP, hg, hrow, hb⟩
    have RP := Lib.hid hrow
    have hnRP : p.length ≤ 1048576 := by omega
    have BN := Lib.hid (B0.out.trans (hb.mono B0.out.size))
    clear B0
    have B0 := BN
    clear BN
    have HCODEz := Lib.hid (HCODE.out.below hb)
    clear HCODE
    have HCODE := HCODEz
    clear HCODEz
    clear hrow hb hg
    obtain ⟨q, okp, hQ⟩ : ∃ r b, P.invF p = (r, b) := ⟨_, _, rfl⟩
    have HII := Lib.hid (fun v W (h : FlatAt W v p.length (ints p)) => by have := implInv_any v p W h hnRP; rw [hQ] at this; exact this)
    have HIS := Lib.hid (fun v W (h : FlatAt W v p.length (ints p)) => by have := specInv_any v p W h hnRP; rw [hQ] at this; exact this)
    have hdo : decide (P.OkP p) = okp := by
      by_cases h : P.OkP p
      · rw [decide_eq_true h]; have := hQ; rw [P.invF_yes h] at this; exact (Prod.mk.inj this).2
      · rw [decide_eq_false h]; have := hQ; rw [P.invF_no h] at this; exact (Prod.mk.inj this).2
    have HVI := Lib.hid (fun v W (h : FlatAt W v p.length (ints p)) => by have := implValidPerm_any v p W h hnRP; rw [hdo] at this; exact this)
    have HOKP : Hid (okp = true → P.OkP p ∧ q = P.invTo p p.length) := Lib.hid (fun hk => by
      rw [hk] at hdo hQ
      have h := of_decide_eq_true hdo
      rw [P.invF_yes h] at hQ
      exact ⟨h, (Prod.mk.inj hQ).1.symm⟩)
    have HNOK : Hid (okp = false → q = []) := Lib.hid (fun hk => by
      rw [hk] at hdo hQ
      have h := of_decide_eq_false hdo
      rw [P.invF_no h] at hQ
      exact (Prod.mk.inj hQ).1.symm)
    have hq : q.length ≤ 1048576 := by have := P.invF_len p; rw [hQ] at this; exact this
    clear hQ hdo
    go_wp2_with fail
    refine (HII.out _ _ (RP.out.flat hcRP)).mono ?_
    rintro e w_2 ⟨gRQ, cRQ, rfl, hcRQ, hg, hrow, hb⟩
    simp only at hcRQ hrow
    have hyRQ := Lib.hid hrow
    have RPz := Lib.hid (RP.out.below hb RP.out.1)
    clear RP
    have RP := RPz
    clear RPz
    have BN := Lib.hid (B0.out.trans (hb.mono B0.out.size))
    clear B0
    have B0 := BN
    clear BN
    have RQ := hyRQ
    clear hyRQ hrow hb hg
    go_wp2_with fail
    refine (HIS.out _ _ (RP.out.flat hcRP)).mono ?_
    rintro e w_3 ⟨gRW, cRW, rfl, hcRW, hg, hrow, hb⟩
    simp only at hcRW hrow
    have hyRW := Lib.hid hrow
    have RPz := Lib.hid (RP.out.below hb RP.out.1)
    clear RP
    have RP := RPz
    clear RPz
    have RQz := Lib.hid (RQ.out.below hb RQ.out.1)
    clear RQ
    have RQ := RQz
    clear RQz
    have BN := Lib.hid (B0.out.trans (hb.mono B0.out.size))
    clear B0
    have B0 := BN
    clear BN
    have RW := hyRW
    clear hyRW hrow hb hg
    go_wp2_with fail
    refine (vInts_yes _ _ q _ (RQ.out.flat hcRQ) (RW.out.flat hcRW) hq).mono ?_
    rintro e w_4 ⟨rfl, hb⟩
    have RPz := Lib.hid (RP.out.below hb RP.out.1)
    clear RP
    have RP := RPz
    clear RPz
    have RQz := Lib.hid (RQ.out.below hb RQ.out.1)
    clear RQ
    have RQ := RQz
    clear RQz
    have RWz := Lib.hid (RW.out.below hb RW.out.1)
    clear RW
    have RW := RWz
    clear RWz
    have BN := Lib.hid (B0.out.trans (hb.mono B0.out.size))
    clear B0
    have B0 := BN
    clear BN
    clear hb
    clear RW
    go_wp2_with fail
    refine (HVI.out _ _ (RP.out.flat hcRP)).mono ?_
    rintro e w_5 ⟨rfl, hb⟩
    have RPz := Lib.hid (RP.out.below hb RP.out.1)
    clear RP
    have RP := RPz
    clear RPz
    have RQz := Lib.hid (RQ.out.below hb RQ.out.1)
    clear RQ
    have RQ := RQz
    clear RQz
    have BN := Lib.hid (B0.out.trans (hb.mono B0.out.size))
    clear B0
    have B0 := BN
    clear BN
    clear hb
    clear HII HIS HVI
    have HCODEz := Lib.hid (HCODE0.out.below B0.out)
    clear HCODE HCODE0
    have HCODE := HCODEz
    clear HCODEz
    go_wp2_with fail
    refine (drawApply_any a len cap _ HCODE.out).mono ?_
    rintro e w_6 ⟨aFR, cFR, r, aFL, cFL, li, hlFR, hlFL, rfl, hf1, hf2, hb⟩
    have hnFR : r.length ≤ 1048576 := by omega
    have hnFL : li.length ≤ 1048576 := by omega
    have RPz := Lib.hid (RP.out.below hb RP.out.1)
    clear RP
    have RP := RPz
    clear RPz
    have RQz := Lib.hid (RQ.out.below hb RQ.out.1)
    clear RQ
    have RQ := RQz
    clear RQz
    have BN := Lib.hid (B0.out.trans (hb.mono B0.out.size))
    clear B0
    have B0 := BN
    clear BN
    have FR := Lib.hid hf1
    have FL := Lib.hid hf2
    clear hf1 hf2 hb HCODE
    obtain ⟨m, fine, hM⟩ : ∃ x b, applyF r li = (x, b) := ⟨_, _, rfl⟩
    have HAI := Lib.hid (fun v v' W (h : FlatAt W v r.length (ints r)) (h' : FlatAt W v' li.length (ints li)) => by have := implApply_any v r v' li W h hnFR h' hnFL; rw [hM] at this; exact this)
    have HAS := Lib.hid (fun v v' W (h : FlatAt W v r.length (ints r)) (h' : FlatAt W v' li.length (ints li)) => by have := specApply_any v r v' li W h hnFR h' hnFL; rw [hM] at this; exact this)
    have hm : m.length ≤ 1048576 := by have := applyF_len r li; rw [hM] at this; exact this
    have HFI : Hid (fine = true → P.invF r = (P.invTo r r.length, true) ∧ applyF (P.invTo r r.length) m = (li, true)) := Lib.hid (fun hk => by
      rw [hk] at hM
      by_cases h : P.OkP r ∧ OkL li ∧ r.length = li.length
      · rw [applyF_yes h] at hM
        have e := (Prod.mk.inj hM).1
        refine ⟨P.invF_yes h.1, ?_⟩
        have hml : m.length = r.length := by rw [← e, P.pickAt_length]
        have hokm : OkL m := by
          refine ⟨by rw [hml]; exact h.1.1, fun x hx => ?_⟩
          rw [← e] at hx
          unfold P.pickAt at hx
          obtain ⟨i, hi, rfl⟩ := List.mem_map.1 hx
          have hr := h.1.2.1 i hi
          have hlt : i.toNat < li.length := by omega
          exact h.2.1.2 _ (by rw [P.getD_at (List.getElem?_eq_getElem hlt)]; exact List.getElem_mem hlt)
        rw [applyF_yes ⟨P.inv_ok h.1, hokm, by rw [P.invTo_length, hml]⟩, ← e, P.back_inv h.1 h.2.2]
      · rw [applyF_no h] at hM
        exact absurd (Prod.mk.inj hM).2 (by simp))
    clear hM
    go_wp2_with fail
    refine (HAI.out _ _ _ FR.out FL.out).mono ?_
    rintro e w_7 ⟨gRM, cRM, rfl, hcRM, hg, hrow, hb⟩
    simp only at hcRM hrow
    have hyRM := Lib.hid hrow
    have FRz := Lib.hid (FR.out.below hb)
    clear FR
    have FR := FRz
    clear FRz
    have FLz := Lib.hid (FL.out.below hb)
    clear FL
    have FL := FLz
    clear FLz
    have RPz := Lib.hid (RP.out.below hb RP.out.1)
    clear RP
    have RP := RPz
    clear RPz
    have RQz := Lib.hid (RQ.out.below hb RQ.out.1)
    clear RQ
    have RQ := RQz
    clear RQz
    have BN := Lib.hid (B0.out.trans (hb.mono B0.out.size))
    clear B0
    have B0 := BN
    clear BN
    have RM := hyRM
    clear hyRM hrow hb hg
    go_wp2_with fail
    refine (HAS.out _ _ _ FR.out FL.out).mono ?_
    rintro e w_8 ⟨gRW2, cRW2, rfl, hcRW2, hg, hrow, hb⟩
    simp only at hcRW2 hrow
    have hyRW2 := Lib.hid hrow
    have FRz := Lib.hid (FR.out.below hb)
    clear FR
    have FR := FRz
    clear FRz
    have FLz := Lib.hid (FL.out.below hb)
    clear FL
    have FL := FLz
    clear FLz
    have RPz := Lib.hid (RP.out.below hb RP.out.1)
    clear RP
    have RP := RPz
    clear RPz
    have RQz := Lib.hid (RQ.out.below hb RQ.out.1)
    clear RQ
    have RQ := RQz
    clear RQz
    have RMz := Lib.hid (RM.out.below hb RM.out.1)
    clear RM
    have RM := RMz
    clear RMz
    have BN := Lib.hid (B0.out.trans (hb.mono B0.out.size))
    clear B0
    have B0 := BN
    clear BN
    have RW2 := hyRW2
    clear hyRW2 hrow hb hg
    go_wp2_with fail
    refine (vInts_yes _ _ m _ (RM.out.flat hcRM) (RW2.out.flat hcRW2) hm).mono ?_
    rintro e w_9 ⟨rfl, hb⟩
    have FRz := Lib.hid (FR.out.below hb)
    clear FR
    have FR := FRz
    clear FRz
    have FLz := Lib.hid (FL.out.below hb)
    clear FL
    have FL := FLz
    clear FLz
    have RPz := Lib.hid (RP.out.below hb RP.out.1)
    clear RP
    have RP := RPz
    clear RPz
    have RQz := Lib.hid (RQ.out.below hb RQ.out.1)
    clear RQ
    have RQ := RQz
    clear RQz
    have RMz := Lib.hid (RM.out.below hb RM.out.1)
    clear RM
    have RM := RMz
    clear RMz
    have RW2z := Lib.hid (RW2.out.below hb RW2.out.1)
    clear RW2
    have RW2 := RW2z
    clear RW2z
    have BN := Lib.hid (B0.out.trans (hb.mono B0.out.size))
    clear B0
    have B0 := BN
    clear BN
    clear hb
    clear RW2
    clear HAI HAS
    cases fine
    case false =>
      clear HFI
      cases okp
      case false =>
        have hq0 : q.length = 0 := by rw [HNOK.out (by first | rfl | trivial)]; rfl
        go_wp2_with fail
        go_ret
        exact ⟨rfl, B0.out⟩
      obtain ⟨hokp, hqe⟩ := HOKP.out (by first | rfl | trivial)
      have hcq : P.compF p q = (P.iota p.length, true) := by rw [P.compF_yes ⟨hokp, by rw [hqe]; exact P.inv_ok hokp, by rw [hqe, P.invTo_length]⟩, hqe, P.comp_inv hokp]
      have HCI := Lib.hid (fun v v' W (h : FlatAt W v p.length (ints p)) (h' : FlatAt W v' q.length (ints q)) => by have := implComp_any v p v' q W h hnRP h' hq; rw [hcq] at this; exact this)
      have hp64 : p.length ≤ 64 := hokp.1
      clear hokp hqe hcq HOKP HNOK
      go_wp2_with fail
      refine (HCI.out _ _ _ (RP.out.flat hcRP) (RQ.out.flat hcRQ)).mono ?_
      rintro e w_10 ⟨gRI, cRI, rfl, hcRI, hg, hrow, hb⟩
      simp only at hcRI hrow
      have hyRI := Lib.hid hrow
      have FRz := Lib.hid (FR.out.below hb)
      clear FR
      have FR := FRz
      clear FRz
      have FLz := Lib.hid (FL.out.below hb)
      clear FL
      have FL := FLz
      clear FLz
      have RPz := Lib.hid (RP.out.below hb RP.out.1)
      clear RP
      have RP := RPz
      clear RPz
      have RQz := Lib.hid (RQ.out.below hb RQ.out.1)
      clear RQ
      have RQ := RQz
      clear RQz
      have RMz := Lib.hid (RM.out.below hb RM.out.1)
      clear RM
      have RM := RMz
      clear RMz
      have BN := Lib.hid (B0.out.trans (hb.mono B0.out.size))
      clear B0
      have B0 := BN
      clear BN
      have RI := hyRI
      clear hyRI hrow hb hg
      have hil : (P.iota p.length).length = p.length := P.iota_length _
      rw [hil] at hcRI ⊢
      clear HCI hil
      go_wp2_with fail
      go_loopw [20] (fun iv wr => ∃ (k m : Nat), k ≤ p.length ∧ iv = .int .i64 k ∧ wr = (w_10).drewN m) (fun iv _ => p.length - (intOf iv).toNat)
      case atStart => exact ⟨0, 0, Nat.zero_le _, rfl, rfl⟩
      case round =>
        obtain ⟨k, m', hk, rfl, rfl⟩ := hrel
        by_cases hlt : k < p.length
        · have hc1 := (RI.out.2 _ _ (ints_at (P.iota_at hlt))).1
          go_wp2_with fail
          go_roundw
          case rel => exact ⟨k + 1, _, by omega, by go_num, rfl⟩
          case measure => simp [intOf]; omega
        · obtain rfl : k = p.length := by omega
          go_wp2_with fail
          go_ret
          exact ⟨rfl, B0.out.trans ⟨rfl, rfl, rfl, Nat.le_refl _, fun _ _ => rfl⟩⟩
    obtain ⟨hi1, hi2⟩ := HFI.out (by first | rfl | trivial)
    have HIR := Lib.hid (fun v W (h : FlatAt W v r.length (ints r)) => by have := implInv_any v r W h hnFR; rw [hi1] at this; exact this)
    obtain ⟨u, hu⟩ : ∃ u, u = P.invTo r r.length := ⟨_, rfl⟩
    have hul : u.length ≤ 1048576 := by rw [hu, P.invTo_length]; exact hnFR
    rw [← hu] at HIR hi2
    have HAB := Lib.hid (fun v v' W (h : FlatAt W v u.length (ints u)) (h' : FlatAt W v' m.length (ints m)) => by have := implApply_any v u v' m W h hul h' hm; rw [hi2] at this; exact this)
    clear hi1 hi2 hu HFI
    go_wp2_with fail
    refine (HIR.out _ _ FR.out).mono ?_
    rintro e w_11 ⟨gRU, cRU, rfl, hcRU, hg, hrow, hb⟩
    simp only at hcRU hrow
    have hyRU := Lib.hid hrow
    have FRz := Lib.hid (FR.out.below hb)
    clear FR
    have FR := FRz
    clear FRz
    have FLz := Lib.hid (FL.out.below hb)
    clear FL
    have FL := FLz
    clear FLz
    have RPz := Lib.hid (RP.out.below hb RP.out.1)
    clear RP
    have RP := RPz
    clear RPz
    have RQz := Lib.hid (RQ.out.below hb RQ.out.1)
    clear RQ
    have RQ := RQz
    clear RQz
    have RMz := Lib.hid (RM.out.below hb RM.out.1)
    clear RM
    have RM := RMz
    clear RMz
    have BN := Lib.hid (B0.out.trans (hb.mono B0.out.size))
    clear B0
    have B0 := BN
    clear BN
    have RU := hyRU
    clear hyRU hrow hb hg
    go_wp2_with fail
    refine (HAB.out _ _ _ (RU.out.flat hcRU) (RM.out.flat hcRM)).mono ?_
    rintro e w_12 ⟨gRB, cRB, rfl, hcRB, hg, hrow, hb⟩
    simp only at hcRB hrow
    have hyRB := Lib.hid hrow
    have FRz := Lib.hid (FR.out.below hb)
    clear FR
    have FR := FRz
    clear FRz
    have FLz := Lib.hid (FL.out.below hb)
    clear FL
    have FL := FLz
    clear FLz
    have RPz := Lib.hid (RP.out.below hb RP.out.1)
    clear RP
    have RP := RPz
    clear RPz
    have RQz := Lib.hid (RQ.out.below hb RQ.out.1)
    clear RQ
    have RQ := RQz
    clear RQz
    have RMz := Lib.hid (RM.out.below hb RM.out.1)
    clear RM
    have RM := RMz
    clear RMz
    have RUz := Lib.hid (RU.out.below hb RU.out.1)
    clear RU
    have RU := RUz
    clear RUz
    have BN := Lib.hid (B0.out.trans (hb.mono B0.out.size))
    clear B0
    have B0 := BN
    clear BN
    have RB := hyRB
    clear hyRB hrow hb hg
    go_wp2_with fail
    refine (vInts_yes _ _ li _ (RB.out.flat hcRB) FL.out hnFL).mono ?_
    rintro e w_13 ⟨rfl, hb⟩
    have FRz := Lib.hid (FR.out.below hb)
    clear FR
    have FR := FRz
    clear FRz
    have FLz := Lib.hid (FL.out.below hb)
    clear FL
    have FL := FLz
    clear FLz
    have RPz := Lib.hid (RP.out.below hb RP.out.1)
    clear RP
    have RP := RPz
    clear RPz
    have RQz := Lib.hid (RQ.out.below hb RQ.out.1)
    clear RQ
    have RQ := RQz
    clear RQz
    have RMz := Lib.hid (RM.out.below hb RM.out.1)
    clear RM
    have RM := RMz
    clear RMz
    have RUz := Lib.hid (RU.out.below hb RU.out.1)
    clear RU
    have RU := RUz
    clear RUz
    have RBz := Lib.hid (RB.out.below hb RB.out.1)
    clear RB
    have RB := RBz
    clear RBz
    have BN := Lib.hid (B0.out.trans (hb.mono B0.out.size))
    clear B0
    have B0 := BN
    clear BN
    clear hb
    clear RU RB
    clear HIR HAB
    cases okp
    case false =>
      have hq0 : q.length = 0 := by rw [HNOK.out (by first | rfl | trivial)]; rfl
      go_wp2_with fail
      go_ret
      exact ⟨rfl, B0.out⟩
    obtain ⟨hokp, hqe⟩ := HOKP.out (by first | rfl | trivial)
    have hcq : P.compF p q = (P.iota p.length, true) := by rw [P.compF_yes ⟨hokp, by rw [hqe]; exact P.inv_ok hokp, by rw [hqe, P.invTo_length]⟩, hqe, P.comp_inv hokp]
    have HCI := Lib.hid (fun v v' W (h : FlatAt W v p.length (ints p)) (h' : FlatAt W v' q.length (ints q)) => by have := implComp_any v p v' q W h hnRP h' hq; rw [hcq] at this; exact this)
    have hp64 : p.length ≤ 64 := hokp.1
    clear hokp hqe hcq HOKP HNOK
    go_wp2_with fail
    refine (HCI.out _ _ _ (RP.out.flat hcRP) (RQ.out.flat hcRQ)).mono ?_
    rintro e w_14 ⟨gRI, cRI, rfl, hcRI, hg, hrow, hb⟩
    simp only at hcRI hrow
    have hyRI := Lib.hid hrow
    have FRz := Lib.hid (FR.out.below hb)
    clear FR
    have FR := FRz
    clear FRz
    have FLz := Lib.hid (FL.out.below hb)
    clear FL
    have FL := FLz
    clear FLz
    have RPz := Lib.hid (RP.out.below hb RP.out.1)
    clear RP
    have RP := RPz
    clear RPz
    have RQz := Lib.hid (RQ.out.below hb RQ.out.1)
    clear RQ
    have RQ := RQz
    clear RQz
    have RMz := Lib.hid (RM.out.below hb RM.out.1)
    clear RM
    have RM := RMz
    clear RMz
    have BN := Lib.hid (B0.out.trans (hb.mono B0.out.size))
    clear B0
    have B0 := BN
    clear BN
    have RI := hyRI
    clear hyRI hrow hb hg
    have hil : (P.iota p.length).length = p.length := P.iota_length _
    rw [hil] at hcRI ⊢
    clear HCI hil
    go_wp2_with fail
    go_loopw [20] (fun iv wr => ∃ (k m : Nat), k ≤ p.length ∧ iv = .int .i64 k ∧ wr = (w_14).drewN m) (fun iv _ => p.length - (intOf iv).toNat)
    case atStart => exact ⟨0, 0, Nat.zero_le _, rfl, rfl⟩
    case round =>
      obtain ⟨k, m', hk, rfl, rfl⟩ := hrel
      by_cases hlt : k < p.length
      · have hc1 := (RI.out.2 _ _ (ints_at (P.iota_at hlt))).1
        go_wp2_with fail
        go_roundw
        case rel => exact ⟨k + 1, _, by omega, by go_num, rfl⟩
        case measure => simp [intOf]; omega
      · obtain rfl : k = p.length := by omega
        go_wp2_with fail
        go_ret
        exact ⟨rfl, B0.out.trans ⟨rfl, rfl, rfl, Nat.le_refl _, fun _ _ => rfl⟩⟩

set_option maxRecDepth 100000 in
theorem lifted (os : Os) (started : os.Started) (H : Type) (enc : TypeId × Value → H) :
    ReturnsInHanded {} Try.checked os 3 .any (Rows.fnInverseSpec.pre6 enc Try.prog Try.f3 Rows.fnInverseRow.domain false) (Rows.fnInverseSpec.post enc Try.prog Try.f3 false true false false) := by
  refine returnsInHanded_of_change (C := Try.checked) own started (by kernel_rfl) Try.func3
    (ChangeSpec.witness6 (enc := enc) (C := Try.checked) false ⟨#[], #[.slice none 0 0], []⟩ 8 (by kernel_rfl) (by kernel_rfl) (by kernel_rfl) (by kernel_rfl)) ?_
  intro W base args ds gs before hval0 hW hcnd _
  have hval : ∀ (j : Nat) t v, Try.f3.params[j]? = some t → args[j]? = some v → Value.okWide Try.prog W .any base t v := hval0
  have hW' := hW
  obtain ⟨p, q, hA0, hV, rfl, hfz, hnd⟩ := hW
  have hA : DataW.TrodAll enc Try.prog W 0 (fun _ => true) true Try.f3.params.toList args.toList ds p := hA0
  rw [Try.params3] at hA hval
  obtain ⟨v0, vs0, d0, ds0, p0, q0, hargs, rfl, rfl, h0, r0⟩ := trodAll_cons hA
  obtain ⟨rfl, rfl, rfl⟩ := trodAll_nil r0
  obtain rfl : args = #[v0] := by cases args; simp_all
  obtain ⟨rfl, rfl⟩ := trodVars_none hV
  obtain ⟨a0, len0, cap0, rfl⟩ := okWide_slice Try.underlying22 (hval 0 22 v0 rfl rfl)
  have k0 := h0
  have lt0 : ∀ x ∈ p0, x.block < W.heap.size := by obtain ⟨m, hm⟩ := k0; exact DataW.trod_lt m _ _ _ hm
  obtain ⟨z0, w0⟩ : ∃ zs, IsRow .u8 W a0 len0 cap0 zs := by
    obtain ⟨fuel, hf⟩ := h0
    rcases open_ints Try.underlying22 Try.underlying5 (by kernel_rfl) hf with ⟨hcs, _⟩ | ⟨x, l, c, zs, hcs, _, hl, hm, hz, _, hcell, hwz⟩
    · simp [Value.cells] at hcs
      obtain ⟨rfl, rfl, rfl⟩ := hcs
      exact ⟨[], .inl ⟨rfl, rfl, rfl, rfl⟩⟩
    · simp [Value.cells] at hcs
      obtain ⟨rfl, rfl, rfl⟩ := hcs
      exact ⟨zs, .inr ⟨_, rfl, hl, hm, by simpa using hz, hcell, hwz⟩⟩
  clear hA0 hval0
  refine (walk a0 len0 cap0 z0 W w0).mono fun e W' ⟨he, bel⟩ => ?_
  subst he
  exact ⟨_, rfl, _, _, _, [], _, [], hW', trodAll_mk1 (shut_bool Try.underlying4 _), (trodAll_cons_mk (Below.trod laidOut (by kernel_rfl) (of_decide_eq_true (by kernel_rfl)) k0 bel lt0) trodAll_mk0), rfl, bel.frame _, fun h => by cases h⟩

theorem closed : joinedFacts Try.prog 3 Try.f3 Rows.fnInverseSpec Rows.fnInverseRow = true := by
  unfold joinedFacts
  rw [head_enter, head_final, head_make]
  kernel_rfl

theorem over : Rows.fnInverseRow.holds Try.pinned (OpenSpec.ofChange Rows.fnInverseSpec) :=
  OpenClaim.holds_of_wide 3 Try.f3 rfl rfl rfl rfl rfl rfl rfl ⟨rfl, rfl, rfl, rfl, rfl⟩ rfl rfl rfl rfl rfl (by kernel_rfl) Try.func3 closed
    (of_decide_eq_true (by kernel_rfl)) (by unfold Func.isWrapper; first | (rw [if_pos (by decide +kernel)]; kernel_rfl) | (rw [if_neg (by decide +kernel)]; exact ⟨rfl, rfl⟩))
    (fun os started H enc _ => lifted os started H enc)

theorem proved : Rows.FnInverseSaid := over
#print axioms proved
end Go.Proofs.Ytckogbmaahenhaa.fnInverse
