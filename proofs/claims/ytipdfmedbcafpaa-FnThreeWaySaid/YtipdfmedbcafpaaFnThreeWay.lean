/- FnThreeWay returns true at every input. No condition. -/
import Derived.Test.YtipdfmedbcafpaaRows
import Derived.WalkKit
import Derived.ProofKit
import Derived.OpenShut
import Derived.ShutString
import Derived.ChangeOld
import Derived.Below
import Derived.SliceStrings
import Derived.Test.YtipdfmedbcafpaaHead
import Derived.Test.YtipdfmedbcafpaaSThr
import Derived.Test.YtipdfmedbcafpaaIThr
import Derived.Test.YtipdfmedbcafpaaDuP
import Derived.Test.YtipdfmedbcafpaaIDu2
import Derived.Test.YtipdfmedbcafpaaRetF
import Derived.Test.YtipdfmedbcafpaaVOrd
import Derived.Test.YtipdfmedbcafpaaVInts
import Derived.Test.YtipdfmedbcafpaaDrawQk
import Derived.Test.YtipdfmedbcafpaaCode
namespace Go.Proofs.Ytipdfmedbcafpaa.fnThreeWay
open Go.ChangeShapes Go.WideShapes Go.ChangeAt Go.RowKit
open Go.ChangeMaps (open_string shut_string)
set_option linter.unusedVariables false

theorem own : ownKnob Try.prog.godebug = none := by kernel_rfl
theorem laidOut : laidOutB Try.prog = true := by kernel_rfl

def IsRow (k : IntKind) (w : World) (a : Option Addr) (len cap : Nat) (zs : List Int) : Prop :=
  (a = none ∧ len = 0 ∧ cap = 0 ∧ zs = []) ∨
  ∃ x, a = some x ∧ len ≤ cap ∧ cap ≤ maxLen ∧ zs.length = cap ∧ (∀ i, i < zs.length → w.cell? (x.add i) = some (.int k (zs.getD i 0))) ∧ ∀ n ∈ zs, (Lit.int k n).wf = true

theorem code_of {w : World} {a : Option Addr} {len cap : Nat} {zs : List Int} (h : IsRow .u8 w a len cap zs) : Code0 w a len := by
  intro k hk
  rcases h with ⟨_, rfl, _⟩ | ⟨x, rfl, hlc, _, hz, hc, hw⟩
  · omega
  · have hkz : k < zs.length := by omega
    have hd : zs.getD k 0 = zs[k] := by simp [List.getD, hkz]
    have hm := hw zs[k] (List.getElem_mem hkz)
    have hcell := hc k hkz
    rw [hd] at hcell
    have hlt := World.block_lt_of_cell? w _ hcell
    have hbk := Go.ChangeShapes.block_add x k
    have hr := bounds_u8 hm
    exact ⟨x, zs[k], rfl, by omega, hcell, hr.1, hr.2⟩

theorem vbig_no (a : Option Addr) (len cap : Nat) (w : World) (h : len ≤ 65536) : Calls Try.prog 16 #[.slice a len cap] w fun e w' => e = .returned (.bool false) ∧ w' = w := by
  go_enter Try.func16, Try.ntmps16
  have hq : decide ((65536 : Int) < (len : Int)) = false := decide_eq_false (by omega)
  go_wp2
  go_ret
  exact ⟨by rw [← hq]; rfl, rfl⟩

set_option maxRecDepth 100000 in
set_option maxHeartbeats 40000000 in
theorem walk (a : Option Addr) (len cap : Nat) (z : List Int) (w : World) (w0 : IsRow .u8 w a len cap z) :
    Calls Try.prog 7 #[.slice a len cap] w fun e w' => e = .returned (.bool true) ∧ Below w.heap.size w w' := by
  have hlen : len ≤ maxLen := by
    rcases w0 with ⟨_, rfl, _⟩ | ⟨x, _, h1, h2, _⟩ <;> omega
  unfold maxLen at hlen
  have HCODE := Lib.hid (code_of w0)
  clear w0
  by_cases hbig : 65536 < len
  · clear HCODE
    go_enter Try.func7, Try.ntmps7
    go_wp2
    go_ret
    exact ⟨rfl, Below.refl _ _⟩
  · go_enter Try.func7, Try.ntmps7
    go_wp2_with fail
    refine (vbig_no a len cap _ (by omega)).mono ?_
    rintro e w0 ⟨rfl, rfl⟩
    clear hlen hbig
    have B0 : Hid (Below w0.heap.size w0 w0) := Lib.hid (Below.refl _ _)
    have HCODE0 := HCODE
    go_wp2_with fail
    refine (drawThr_any a len cap _ HCODE.out).mono ?_
    rintro e w_1 ⟨gRL, cRL, li, x, hlRL, hp1, hp2, rfl, hcRL, hrow, hb⟩
    have RL := Lib.hid hrow
    have hnRL : li.length ≤ 1048576 := by omega
    have BN := Lib.hid (B0.out.trans (hb.mono B0.out.size))
    clear B0
    have B0 := BN
    clear BN
    clear hrow hb HCODE
    obtain ⟨S, lt0, gt0, okl, hS⟩ : ∃ x1 y1 z1 b1, Qk.thAll li x = (x1, y1, z1, b1) := ⟨_, _, _, _, rfl⟩
    have HI := Lib.hid (fun b o c W (h : FlatAt W (.slice (some ⟨b, o, none⟩) li.length c) li.length (ints li)) => by have := implThr_any b o c li x W h hnRL; rw [hS] at this; exact this)
    have HSP := Lib.hid (fun b o c W (h : FlatAt W (.slice (some ⟨b, o, none⟩) li.length c) li.length (ints li)) => by have := specThr_any b o c li x W h hnRL; rw [hS] at this; exact this)
    have hs : S.length ≤ 1048576 := by have := Qk.thAll_len li x; rw [hS] at this; exact this
    have hyes : ∃ lt gt : Nat, lt0 = lt ∧ gt0 = gt ∧ lt ≤ 64 ∧ gt ≤ 64 ∧ S.length ≤ 64 ∧ ∀ i, i < S.length → (S.getD i 0 < x ↔ i < lt) ∧ (x < S.getD i 0 ↔ gt ≤ i) := by
      by_cases h : OkL li
      · rw [Qk.thAll_yes h] at hS
        simp only [Prod.mk.injEq] at hS
        have ht := Qk.thF_spec li x
        have hl := ht.perm.length_eq
        have h64 := h.1
        have h1 := ht.h1
        have h3 := ht.h3
        rw [hS.1] at ht hl
        refine ⟨_, _, hS.2.1.symm, hS.2.2.1.symm, by omega, by omega, by omega, fun i hi => ?_⟩
        by_cases c1 : i < (Qk.thF li x).2.1
        · have := ht.lo i c1; omega
        · by_cases c2 : (Qk.thF li x).2.2 ≤ i
          · have := ht.hi i c2 (by omega); omega
          · have := ht.mid i (by omega) (by omega); omega
      · rw [Qk.thAll_no h] at hS
        simp only [Prod.mk.injEq] at hS
        exact ⟨0, 0, hS.2.1.symm, hS.2.2.1.symm, by omega, by omega, by rw [← hS.1]; exact Nat.zero_le _, fun i hi => by rw [← hS.1] at hi; exact absurd hi (Nat.not_lt_zero _)⟩
    obtain ⟨lt, gt, rfl, rfl, hlt64, hgt64, hs64, hyes⟩ := hyes
    have HY := Lib.hid hyes
    clear hS hyes
    go_wp2_with fail
    refine (HI.out _ _ _ _ (RL.out.flat hcRL)).mono ?_
    rintro e w_2 ⟨gRQ, cRQ, rfl, hcRQ, hg, hrow, hb⟩
    simp only at hcRQ hrow
    have hyRQ := Lib.hid hrow
    have RLz := Lib.hid (RL.out.below hb RL.out.1)
    clear RL
    have RL := RLz
    clear RLz
    have BN := Lib.hid (B0.out.trans (hb.mono B0.out.size))
    clear B0
    have B0 := BN
    clear BN
    have RQ := hyRQ
    clear hyRQ hrow hb hg
    go_wp2_with fail
    refine (HSP.out _ _ _ _ (RL.out.flat hcRL)).mono ?_
    rintro e w_3 ⟨gRW, cRW, rfl, hcRW, hg, hrow, hb⟩
    simp only at hcRW hrow
    have hyRW := Lib.hid hrow
    have RLz := Lib.hid (RL.out.below hb RL.out.1)
    clear RL
    have RL := RLz
    clear RLz
    have RQz := Lib.hid (RQ.out.below hb RQ.out.1)
    clear RQ
    have RQ := RQz
    clear RQz
    have BN := Lib.hid (B0.out.trans (hb.mono B0.out.size))
    clear B0
    have B0 := BN
    clear BN
    have RW := hyRW
    clear hyRW hrow hb hg
    go_wp2_with fail
    refine (vInts_yes _ _ S _ (RQ.out.flat hcRQ) (RW.out.flat hcRW) hs).mono ?_
    rintro e w_4 ⟨rfl, hb⟩
    have RLz := Lib.hid (RL.out.below hb RL.out.1)
    clear RL
    have RL := RLz
    clear RLz
    have RQz := Lib.hid (RQ.out.below hb RQ.out.1)
    clear RQ
    have RQ := RQz
    clear RQz
    have RWz := Lib.hid (RW.out.below hb RW.out.1)
    clear RW
    have RW := RWz
    clear RWz
    have BN := Lib.hid (B0.out.trans (hb.mono B0.out.size))
    clear B0
    have B0 := BN
    clear BN
    clear hb
    clear RW RL
    clear HI HSP
    go_wp2_with fail
    go_loopw [13] (fun iv wr => ∃ i : Nat, iv = .int .i64 (i : Int) ∧ i ≤ S.length ∧ wr = w_4) (fun iv _ => S.length - (intOf iv).toNat)
    case atStart => exact ⟨0, rfl, Nat.zero_le _, rfl⟩
    case round =>
      obtain ⟨i, rfl, hiS, rfl⟩ := hrel
      by_cases hlt : i < S.length
      · have hiz : (i : Int) < (S.length : Int) := by omega
        have hid : decide ((i : Int) < (S.length : Int)) = true := decide_eq_true hiz
        obtain ⟨y, hy⟩ : ∃ y, y = S.getD i 0 := ⟨_, rfl⟩
        obtain ⟨hci, _⟩ := RQ.out.2 i _ (ints_at (P.at_getD hlt))
        have hyy := HY.out i hlt
        rw [← hy] at hci hyy
        clear hy
        rcases (show y < x ∨ y = x ∨ x < y by omega) with h1 | h1 | h1
        all_goals
          first
          | have hd1 : decide (y < x) = true := decide_eq_true (by omega)
          | have hd1 : decide (y < x) = false := decide_eq_false (by omega)
          first
          | have hd2 : decide (x < y) = true := decide_eq_true (by omega)
          | have hd2 : decide (x < y) = false := decide_eq_false (by omega)
          first
          | have hd3 : decide (i < lt) = true := decide_eq_true (by omega)
          | have hd3 : decide (i < lt) = false := decide_eq_false (by omega)
          first
          | have hd4 : decide (gt ≤ i) = true := decide_eq_true (by omega)
          | have hd4 : decide (gt ≤ i) = false := decide_eq_false (by omega)
          clear hyy h1
          go_wp2_with fail
          go_roundw
          case rel => exact ⟨i + 1, by go_num, by omega, by first | rfl | trivial⟩
          case measure => simp [intOf]; omega
      · have hiz : ¬ (i : Int) < (S.length : Int) := by omega
        have hid : decide ((i : Int) < (S.length : Int)) = false := decide_eq_false hiz
        clear HY
        clear RQ
        have HCODE := Lib.hid (HCODE0.out.below B0.out)
        clear HCODE0
        go_wp2_with fail
        refine (drawDu_any a len cap _ HCODE.out).mono ?_
        rintro e w_5 ⟨gRY, cRY, ys, a1, b1, hlRY, ha1, ha2, hb1, hb2, rfl, hcRY, hrow, hb⟩
        have RY := Lib.hid hrow
        have hnRY : ys.length ≤ 1048576 := by omega
        have BN := Lib.hid (B0.out.trans (hb.mono B0.out.size))
        clear B0
        have B0 := BN
        clear BN
        clear hrow hb HCODE
        obtain ⟨D, n0, m0, fine, hD⟩ : ∃ x1 y1 z1 b2, Qk.duAll ys a1 b1 = (x1, y1, z1, b2) := ⟨_, _, _, _, rfl⟩
        have HI := Lib.hid (fun b o c W (h : FlatAt W (.slice (some ⟨b, o, none⟩) ys.length c) ys.length (ints ys)) => by have := (implDu_any b o c ys a1 b1 W h hnRY).mono fun e w2 hq => hq.flat; rw [hD] at this; exact this)
        have HSP := Lib.hid (fun b o c W (h : FlatAt W (.slice (some ⟨b, o, none⟩) ys.length c) ys.length (ints ys)) => by have := (specDu_any b o c ys a1 b1 W h hnRY).mono fun e w2 hq => hq.flat; rw [hD] at this; exact this)
        have hdl : D.length ≤ 1048576 := by have := Qk.duAll_len ys a1 b1; rw [hD] at this; exact this
        have HYD : Hid (fine = true → ∃ nn mm : Nat, n0 = nn ∧ m0 = mm ∧ nn ≤ mm ∧ mm ≤ ys.length ∧ ys.length ≤ 64 ∧ a1 ≤ b1 ∧ D = Qk.duF ys a1 b1 ∧ D.length = ys.length) := Lib.hid (fun hk => by
          by_cases h : OkL ys ∧ a1 ≤ b1
          · rw [Qk.duAll_yes h] at hD
            simp only [Prod.mk.injEq] at hD
            have hl := Qk.du_lens h.2 ys
            refine ⟨(Qk.lowF ys a1).length, (Qk.lowF ys a1).length + (Qk.midF ys a1 b1).length, hD.2.1.symm, by rw [← hD.2.2.1]; omega, by omega, by omega, h.1.1, h.2, hD.1.symm, by rw [← hD.1]; exact Qk.duF_length h.2 ys⟩
          · rw [Qk.duAll_no h] at hD; simp only [Prod.mk.injEq] at hD; rw [← hD.2.2.2] at hk; cases hk)
        clear hD
        go_wp2_with fail
        refine (HI.out _ _ _ _ (RY.out.flat hcRY)).mono ?_
        rintro e w_6 ⟨aRD, cRD, rfl, hf, hb⟩
        simp only at hf
        have hyRD := Lib.hid hf
        have RYz := Lib.hid (RY.out.below hb RY.out.1)
        clear RY
        have RY := RYz
        clear RYz
        have BN := Lib.hid (B0.out.trans (hb.mono B0.out.size))
        clear B0
        have B0 := BN
        clear BN
        have RD := hyRD
        clear hyRD hf hb
        go_wp2_with fail
        refine (HSP.out _ _ _ _ (RY.out.flat hcRY)).mono ?_
        rintro e w_7 ⟨aRE, cRE, rfl, hf, hb⟩
        simp only at hf
        have hyRE := Lib.hid hf
        have RDz := Lib.hid (RD.out.below hb)
        clear RD
        have RD := RDz
        clear RDz
        have RYz := Lib.hid (RY.out.below hb RY.out.1)
        clear RY
        have RY := RYz
        clear RYz
        have BN := Lib.hid (B0.out.trans (hb.mono B0.out.size))
        clear B0
        have B0 := BN
        clear BN
        have RE := hyRE
        clear hyRE hf hb
        go_wp2_with fail
        refine (vInts_yes _ _ D _ RD.out RE.out hdl).mono ?_
        rintro e w_8 ⟨rfl, hb⟩
        have RDz := Lib.hid (RD.out.below hb)
        clear RD
        have RD := RDz
        clear RDz
        have REz := Lib.hid (RE.out.below hb)
        clear RE
        have RE := REz
        clear REz
        have RYz := Lib.hid (RY.out.below hb RY.out.1)
        clear RY
        have RY := RYz
        clear RYz
        have BN := Lib.hid (B0.out.trans (hb.mono B0.out.size))
        clear B0
        have B0 := BN
        clear BN
        clear hb
        clear RE
        clear HI HSP
        cases fine
        case false =>
          clear HYD
          go_wp2_with fail
          go_loopw [25, 26, 27] (fun av pv _ wr => av = .int .i64 0 ∧ pv = .int .i64 0 ∧ wr = w_8) (fun _ _ _ _ => 0)
          case atStart => exact ⟨rfl, rfl, rfl⟩
          case round =>
            obtain ⟨rfl, rfl, rfl⟩ := hrel
            go_wp2_with fail
            go_ret
            exact ⟨rfl, B0.out⟩
        obtain ⟨nn, mm, rfl, rfl, hnm, hmy, hy64, hab, hDe, hDl⟩ := HYD.out (by first | rfl | trivial)
        have HAT : Hid (∀ j i x, j < 3 → ys[i]? = some x → Qk.selB a1 b1 j x = true → D[Qk.offD a1 b1 ys j + ((ys.take i).filter (Qk.selB a1 b1 j)).length]? = some x) := Lib.hid (fun j i x h1 h2 h3 => by rw [hDe]; exact Qk.du_at hab h1 h2 h3)
        have HO3 := Lib.hid (Qk.offD3 hab ys)
        have HOL := Lib.hid (fun j (hj : j ≤ 3) => Qk.offD_le hab ys hj)
        have HAB := Lib.hid hab
        have HDL := Lib.hid hDl
        clear hDe hab HYD hDl
        go_wp2_with fail
        go_loopw [25, 26, 27] (fun av pv _ wr => ∃ j t : Nat, av = .int .i64 (t : Int) ∧ pv = .int .i64 (j : Int) ∧ j ≤ 3 ∧ t = Qk.offD a1 b1 ys j ∧ Below w_8.heap.size w_8 wr) (fun _ pv _ _ => 3 - (intOf pv).toNat)
        case atStart => exact ⟨0, 0, rfl, rfl, Nat.zero_le _, rfl, Below.refl _ _⟩
        case round =>
          obtain ⟨j, t, rfl, rfl, hj3, ht, hb⟩ := hrel
          have HBJ := Lib.hid hb
          have ht64 : t ≤ 64 := by have := HOL.out j hj3; omega
          have HT := Lib.hid ht
          clear hb ht
          by_cases hj : j < 3
          · have hjz : (j : Int) < 3 := by omega
            have hjd : decide ((j : Int) < 3) = true := decide_eq_true hjz
            go_wp2_with fail
            go_loopw [25, 27] (fun av iv ws => ∃ i t : Nat, av = .int .i64 (t : Int) ∧ iv = .int .i64 (i : Int) ∧ i ≤ ys.length ∧ t = Qk.offD a1 b1 ys j + ((ys.take i).filter (Qk.selB a1 b1 j)).length ∧ Below w_8.heap.size w_8 ws) (fun _ iv _ => ys.length - (intOf iv).toNat)
            case atStart => exact ⟨0, t, rfl, rfl, Nat.zero_le _, by rw [HT.out]; simp, HBJ.out⟩
            case round =>
              obtain ⟨i, t', rfl, rfl, hi, ht, hb⟩ := hrel
              have HBI := Lib.hid hb
              have ht64' : t' ≤ 128 := by
                have h1 := HOL.out j hj3
                have h2 : ((ys.take i).filter (Qk.selB a1 b1 j)).length ≤ ys.length := filt_len _ _
                omega
              have HTI := Lib.hid ht
              clear hb ht
              by_cases hlt : i < ys.length
              · have hiz : (i : Int) < (ys.length : Int) := by omega
                have hid : decide ((i : Int) < (ys.length : Int)) = true := decide_eq_true hiz
                obtain ⟨x, hx⟩ : ∃ x, ys[i]? = some x := ⟨_, List.getElem?_eq_getElem hlt⟩
                obtain ⟨hci, _⟩ := (RY.out.below HBI.out RY.out.1).2 i _ (ints_at hx)
                have HX := Lib.hid hx
                clear hx
                rcases (show j = 0 ∨ j = 1 ∨ j = 2 by omega) with hj' | hj' | hj' <;> rcases (show x < a1 ∨ (a1 ≤ x ∧ x ≤ b1) ∨ b1 < x by omega) with hx1 | hx1 | hx1
                all_goals
                  have hab' := HAB.out
                  first
                  | have hj0 : ((j : Int) == 0) = true := beq_iff_eq.2 (by omega)
                  | have hj0 : ((j : Int) == 0) = false := beq_eq_false_iff_ne.2 (by omega)
                  first
                  | have hj2 : ((j : Int) == 2) = true := beq_iff_eq.2 (by omega)
                  | have hj2 : ((j : Int) == 2) = false := beq_eq_false_iff_ne.2 (by omega)
                  first
                  | have hd1 : decide (x < a1) = true := decide_eq_true (by omega)
                  | have hd1 : decide (x < a1) = false := decide_eq_false (by omega)
                  first
                  | have hd2 : decide (b1 < x) = true := decide_eq_true (by omega)
                  | have hd2 : decide (b1 < x) = false := decide_eq_false (by omega)
                  first
                  | (have hsel : Qk.selB a1 b1 j x = true := by unfold Qk.selB; rw [hd1, hd2, hj']; decide
                     have hD := HAT.out j i x hj HX.out hsel
                     rw [← HTI.out] at hD
                     have hltD := (List.getElem?_eq_some_iff.1 hD).1
                     have hgd : decide (D.length ≤ t') = false := decide_eq_false (by omega)
                     have hgz : ¬ (D.length : Int) ≤ (t' : Int) := by omega
                     have htz : (t' : Int) < (D.length : Int) := by omega
                     have hcD : ∃ b' o', aRD = some ⟨b', o', none⟩ ∧ wr.cell? ⟨b', o' + t', none⟩ = some (.int .i64 x) := by
                       obtain ⟨a', c', e1, _, hh⟩ := RD.out.below HBI.out
                       simp at e1
                       obtain ⟨b', o', e2, _, hc⟩ := hh t' _ (ints_at hD)
                       exact ⟨b', o', by rw [e1.1]; exact e2, hc⟩
                     obtain ⟨b', o', rfl, hcd⟩ := hcD
                     have HN : Hid (t' + 1 = Qk.offD a1 b1 ys j + ((ys.take (i + 1)).filter (Qk.selB a1 b1 j)).length) := Lib.hid (by rw [filt_yes HX.out hsel, List.length_append, HTI.out]; simp; omega)
                     have HBN : Hid (∀ q, Below w_8.heap.size w_8 (wr.drewN q)) := Lib.hid (fun q => HBI.out.trans ⟨rfl, rfl, rfl, Nat.le_refl _, fun _ _ => rfl⟩)
                     clear hsel hD hltD hab' hj' hx1
                     go_wp2_with fail
                     go_quiet (fail)
                     go_wp2_with fail
                     go_roundw
                     case rel => exact ⟨i + 1, t' + 1, by go_num, by go_num, by omega, HN.out, HBN.out _⟩
                     case measure => simp [intOf]; omega)
                  | (have hsel : Qk.selB a1 b1 j x = false := by unfold Qk.selB; rw [hd1, hd2, hj']; decide
                     have HN : Hid (t' = Qk.offD a1 b1 ys j + ((ys.take (i + 1)).filter (Qk.selB a1 b1 j)).length) := Lib.hid (by rw [filt_no HX.out hsel]; exact HTI.out)
                     clear hsel hab' hj' hx1
                     go_wp2_with fail
                     go_roundw
                     case rel => exact ⟨i + 1, t', rfl, by go_num, by omega, HN.out, HBI.out⟩
                     case measure => simp [intOf]; omega)
              · have hiz : ¬ (i : Int) < (ys.length : Int) := by omega
                have hid : decide ((i : Int) < (ys.length : Int)) = false := decide_eq_false hiz
                have HN : Hid (t' = Qk.offD a1 b1 ys (j + 1)) := Lib.hid (by rw [HTI.out, List.take_of_length_le (by omega)]; rfl)
                go_wp2_with fail
                go_roundw
                case rel => exact ⟨j + 1, t', rfl, by go_num, by omega, HN.out, HBI.out⟩
                case measure => simp [intOf]; omega
          · have hjz : ¬ (j : Int) < 3 := by omega
            have hjd : decide ((j : Int) < 3) = false := decide_eq_false hjz
            have hte : t = ys.length := by rw [HT.out, show j = 3 by omega]; exact HO3.out
            have hq1 : ((t : Int) == (ys.length : Int)) = true := by rw [hte]; simp
            have hq2 : (t : Int) = (ys.length : Int) := by omega
            have hq3 : decide (nn ≤ mm) = true := decide_eq_true hnm
            have hq4 : decide (mm ≤ ys.length) = true := decide_eq_true hmy
            have hq5 : (nn : Int) ≤ (mm : Int) := by omega
            have hq6 : (mm : Int) ≤ (ys.length : Int) := by omega
            have HBE : Hid (Below w0.heap.size w0 wr) := Lib.hid (B0.out.trans (HBJ.out.mono B0.out.size))
            subst hte
            clear hq2
            go_wp2_with fail
            go_ret
            exact ⟨rfl, HBE.out⟩

set_option maxRecDepth 100000 in
theorem lifted (os : Os) (started : os.Started) (H : Type) (enc : TypeId × Value → H) :
    ReturnsInHanded {} Try.checked os 7 .any (Rows.fnThreeWaySpec.pre6 enc Try.prog Try.f7 Rows.fnThreeWayRow.domain false) (Rows.fnThreeWaySpec.post enc Try.prog Try.f7 false true false false) := by
  refine returnsInHanded_of_change (C := Try.checked) own started (by kernel_rfl) Try.func7
    (ChangeSpec.witness6 (enc := enc) (C := Try.checked) false ⟨#[], #[.slice none 0 0], []⟩ 8 (by kernel_rfl) (by kernel_rfl) (by kernel_rfl) (by kernel_rfl)) ?_
  intro W base args ds gs before hval0 hW hcnd _
  have hval : ∀ (j : Nat) t v, Try.f7.params[j]? = some t → args[j]? = some v → Value.okWide Try.prog W .any base t v := hval0
  have hW' := hW
  obtain ⟨p, q, hA0, hV, rfl, hfz, hnd⟩ := hW
  have hA : DataW.TrodAll enc Try.prog W 0 (fun _ => true) true Try.f7.params.toList args.toList ds p := hA0
  rw [Try.params7] at hA hval
  obtain ⟨v0, vs0, d0, ds0, p0, q0, hargs, rfl, rfl, h0, r0⟩ := trodAll_cons hA
  obtain ⟨rfl, rfl, rfl⟩ := trodAll_nil r0
  obtain rfl : args = #[v0] := by cases args; simp_all
  obtain ⟨rfl, rfl⟩ := trodVars_none hV
  obtain ⟨a0, len0, cap0, rfl⟩ := okWide_slice Try.underlying22 (hval 0 22 v0 rfl rfl)
  have k0 := h0
  have lt0 : ∀ x ∈ p0, x.block < W.heap.size := by obtain ⟨m, hm⟩ := k0; exact DataW.trod_lt m _ _ _ hm
  obtain ⟨z0, w0⟩ : ∃ zs, IsRow .u8 W a0 len0 cap0 zs := by
    obtain ⟨fuel, hf⟩ := h0
    rcases open_ints Try.underlying22 Try.underlying5 (by kernel_rfl) hf with ⟨hcs, _⟩ | ⟨x, l, c, zs, hcs, _, hl, hm, hz, _, hcell, hwz⟩
    · simp [Value.cells] at hcs
      obtain ⟨rfl, rfl, rfl⟩ := hcs
      exact ⟨[], .inl ⟨rfl, rfl, rfl, rfl⟩⟩
    · simp [Value.cells] at hcs
      obtain ⟨rfl, rfl, rfl⟩ := hcs
      exact ⟨zs, .inr ⟨_, rfl, hl, hm, by simpa using hz, hcell, hwz⟩⟩
  clear hA0 hval0
  refine (walk a0 len0 cap0 z0 W w0).mono fun e W' ⟨he, bel⟩ => ?_
  subst he
  exact ⟨_, rfl, _, _, _, [], _, [], hW', trodAll_mk1 (shut_bool Try.underlying4 _), (trodAll_cons_mk (Below.trod laidOut (by kernel_rfl) (of_decide_eq_true (by kernel_rfl)) k0 bel lt0) trodAll_mk0), rfl, bel.frame _, fun h => by cases h⟩

theorem closed : joinedFacts Try.prog 7 Try.f7 Rows.fnThreeWaySpec Rows.fnThreeWayRow = true := by
  unfold joinedFacts
  rw [head_enter, head_final, head_make]
  kernel_rfl

theorem over : Rows.fnThreeWayRow.holds Try.pinned (OpenSpec.ofChange Rows.fnThreeWaySpec) :=
  OpenClaim.holds_of_wide 7 Try.f7 rfl rfl rfl rfl rfl rfl rfl ⟨rfl, rfl, rfl, rfl, rfl⟩ rfl rfl rfl rfl rfl (by kernel_rfl) Try.func7 closed
    (of_decide_eq_true (by kernel_rfl)) (by unfold Func.isWrapper; first | (rw [if_pos (by decide +kernel)]; kernel_rfl) | (rw [if_neg (by decide +kernel)]; exact ⟨rfl, rfl⟩))
    (fun os started H enc _ => lifted os started H enc)

theorem proved : Rows.FnThreeWaySaid := over
#print axioms proved
end Go.Proofs.Ytipdfmedbcafpaa.fnThreeWay
