/- FnSorted returns true at every input. No condition. -/
import Derived.Test.YtjmmhakmidddoaaRows
import Derived.WalkKit
import Derived.ProofKit
import Derived.OpenShut
import Derived.ShutString
import Derived.ChangeOld
import Derived.Below
import Derived.SliceStrings
import Derived.Test.YtjmmhakmidddoaaHead
import Derived.Test.YtjmmhakmidddoaaDsc
import Derived.Test.YtjmmhakmidddoaaIShell
import Derived.Test.YtjmmhakmidddoaaSShell
import Derived.Test.YtjmmhakmidddoaaVOrd
import Derived.Test.YtjmmhakmidddoaaVInts
import Derived.Test.YtjmmhakmidddoaaDrawSh
import Derived.Test.YtjmmhakmidddoaaCode
namespace Go.Proofs.Ytjmmhakmidddoaa.fnSorted
open Go.ChangeShapes Go.WideShapes Go.ChangeAt Go.RowKit
open Go.ChangeMaps (open_string shut_string)
set_option linter.unusedVariables false

theorem own : ownKnob Try.prog.godebug = none := by kernel_rfl
theorem laidOut : laidOutB Try.prog = true := by kernel_rfl

def IsRow (k : IntKind) (w : World) (a : Option Addr) (len cap : Nat) (zs : List Int) : Prop :=
  (a = none ∧ len = 0 ∧ cap = 0 ∧ zs = []) ∨
  ∃ x, a = some x ∧ len ≤ cap ∧ cap ≤ maxLen ∧ zs.length = cap ∧ (∀ i, i < zs.length → w.cell? (x.add i) = some (.int k (zs.getD i 0))) ∧ ∀ n ∈ zs, (Lit.int k n).wf = true

theorem code_of {w : World} {a : Option Addr} {len cap : Nat} {zs : List Int} (h : IsRow .u8 w a len cap zs) : Code0 w a len := by
  intro k hk
  rcases h with ⟨_, rfl, _⟩ | ⟨x, rfl, hlc, _, hz, hc, hw⟩
  · omega
  · have hkz : k < zs.length := by omega
    have hd : zs.getD k 0 = zs[k] := by simp [List.getD, hkz]
    have hm := hw zs[k] (List.getElem_mem hkz)
    have hcell := hc k hkz
    rw [hd] at hcell
    have hlt := World.block_lt_of_cell? w _ hcell
    have hbk := Go.ChangeShapes.block_add x k
    have hr := bounds_u8 hm
    exact ⟨x, zs[k], rfl, by omega, hcell, hr.1, hr.2⟩

theorem vbig_no (a : Option Addr) (len cap : Nat) (w : World) (h : len ≤ 65536) : Calls Try.prog 17 #[.slice a len cap] w fun e w' => e = .returned (.bool false) ∧ w' = w := by
  go_enter Try.func17, Try.ntmps17
  have hq : decide ((65536 : Int) < (len : Int)) = false := decide_eq_false (by omega)
  go_wp2
  go_ret
  exact ⟨by rw [← hq]; rfl, rfl⟩

set_option maxRecDepth 100000 in
set_option maxHeartbeats 40000000 in
theorem walk (a : Option Addr) (len cap : Nat) (z : List Int) (w : World) (w0 : IsRow .u8 w a len cap z) :
    Calls Try.prog 9 #[.slice a len cap] w fun e w' => e = .returned (.bool true) ∧ Below w.heap.size w w' := by
  have hlen : len ≤ maxLen := by
    rcases w0 with ⟨_, rfl, _⟩ | ⟨x, _, h1, h2, _⟩ <;> omega
  unfold maxLen at hlen
  have HCODE := Lib.hid (code_of w0)
  clear w0
  by_cases hbig : 65536 < len
  · clear HCODE
    go_enter Try.func9, Try.ntmps9
    go_wp2
    go_ret
    exact ⟨rfl, Below.refl _ _⟩
  · go_enter Try.func9, Try.ntmps9
    go_wp2_with fail
    refine (vbig_no a len cap _ (by omega)).mono ?_
    rintro e w0 ⟨rfl, rfl⟩
    clear hlen hbig
    have B0 : Hid (Below w0.heap.size w0 w0) := Lib.hid (Below.refl _ _)
    have HCODE0 := HCODE
    go_wp2_with fail
    refine (drawSorted_any a len cap _ HCODE.out).mono ?_
    rintro e w_1 ⟨gRL, cRL, li, hlRL, rfl, hcRL, hrow, hb⟩
    have RL := Lib.hid hrow
    have hnRL : li.length ≤ 1048576 := by omega
    have BN := Lib.hid (B0.out.trans (hb.mono B0.out.size))
    clear B0
    have B0 := BN
    clear BN
    clear hrow hb HCODE
    obtain ⟨at0, okl, hR⟩ : ∃ x b, dscAll li = (x, b) := ⟨_, _, rfl⟩
    have HII := Lib.hid (fun v W (h : FlatAt W v li.length (ints li)) => by have := implSorted_any v li W h hnRL; rw [hR] at this; exact this)
    have HIS := Lib.hid (fun v W (h : FlatAt W v li.length (ints li)) => by have := specSorted_any v li W h hnRL; rw [hR] at this; exact this)
    have HYES : Hid (okl = true → (at0 = -1 ∧ ∀ i, i + 1 < li.length → ¬ li.getD (i + 1) 0 < li.getD i 0) ∨ ∃ k : Nat, at0 = k ∧ k + 1 < li.length ∧ li.getD (k + 1) 0 < li.getD k 0 ∧ ∀ i, i < k → ¬ li.getD (i + 1) 0 < li.getD i 0) := Lib.hid (fun hk => by
      by_cases h : OkL li
      · rw [dscAll_yes h] at hR
        simp only [Prod.mk.injEq] at hR
        rcases El.descF_spec li with ⟨h1, h2⟩ | ⟨k, h1, h2, h3, h4⟩
        · exact .inl ⟨by rw [← hR.1]; exact h1, fun i hi => by have := El.asc_at h2 (i := i) (j := i + 1) (by omega) hi; omega⟩
        · exact .inr ⟨k, by rw [← hR.1]; exact h1, h2, h3, h4⟩
      · rw [dscAll_no h] at hR; simp only [Prod.mk.injEq] at hR; rw [← hR.2] at hk; cases hk)
    clear hR
    go_wp2_with fail
    refine (HII.out _ _ (RL.out.flat hcRL)).mono ?_
    rintro e w_2 ⟨rfl, hb⟩
    have RLz := Lib.hid (RL.out.below hb RL.out.1)
    clear RL
    have RL := RLz
    clear RLz
    have BN := Lib.hid (B0.out.trans (hb.mono B0.out.size))
    clear B0
    have B0 := BN
    clear BN
    clear hb
    go_wp2_with fail
    refine (HIS.out _ _ (RL.out.flat hcRL)).mono ?_
    rintro e w_3 ⟨rfl, hb⟩
    have RLz := Lib.hid (RL.out.below hb RL.out.1)
    clear RL
    have RL := RLz
    clear RLz
    have BN := Lib.hid (B0.out.trans (hb.mono B0.out.size))
    clear B0
    have B0 := BN
    clear BN
    clear hb
    clear HII HIS
    cases okl
    case false =>
      clear HYES
      go_wp2_with fail
      go_loopw [8] (fun iv wr => iv = .int .i64 0 ∧ wr = w_3) (fun _ _ => 0)
      case atStart => exact ⟨rfl, rfl⟩
      case round =>
        obtain ⟨rfl, rfl⟩ := hrel
        by_cases h1 : 1 < li.length
        · have h1z : (1 : Int) < li.length := by omega
          have hg1 : decide ((1 : Int) < li.length) = true := decide_eq_true h1z
          go_wp2_with fail
          go_quiet (fail)
          have hb : Below wr.heap.size wr (wr.drewN nq) := ⟨rfl, rfl, rfl, Nat.le_refl _, fun _ _ => rfl⟩
          have RLz := Lib.hid (RL.out.below hb RL.out.1)
          clear RL
          have RL := RLz
          clear RLz
          have BN := Lib.hid (B0.out.trans (hb.mono B0.out.size))
          clear B0
          have B0 := BN
          clear BN
          generalize wr.drewN nq = w_4 at *
          clear hb
          have HCODE := Lib.hid (HCODE0.out.below B0.out)
          clear HCODE0
          go_wp2_with fail
          refine (drawShell_any a len cap _ HCODE.out).mono ?_
          rintro e w_5 ⟨gRX, cRX, xs, aG, cG, gs, hlRX, hlG, rfl, hcRX, hrow, hfl, hb⟩
          have hnRX : xs.length ≤ 1048576 := by omega
          have hnG : gs.length ≤ 1048576 := by omega
          have RX := Lib.hid hrow
          have FG := Lib.hid hfl
          have RLz := Lib.hid (RL.out.below hb RL.out.1)
          clear RL
          have RL := RLz
          clear RLz
          have BN := Lib.hid (B0.out.trans (hb.mono B0.out.size))
          clear B0
          have B0 := BN
          clear BN
          clear hrow hfl hb HCODE
          obtain ⟨s, C, fine, hS⟩ : ∃ x y b, shellAll xs gs = (x, y, b) := ⟨_, _, _, rfl⟩
          have HSI := Lib.hid (fun b o c v W (h : FlatAt W (.slice (some ⟨b, o, none⟩) xs.length c) xs.length (ints xs)) (hg : FlatAt W v gs.length (ints gs)) => by have := implShell_any b o c xs v gs W h hnRX hg hnG; rw [hS] at this; exact this)
          have HSS := Lib.hid (fun b o c v W (h : FlatAt W (.slice (some ⟨b, o, none⟩) xs.length c) xs.length (ints xs)) (hg : FlatAt W v gs.length (ints gs)) => by have := specShell_any b o c xs v gs W h hnRX hg hnG; rw [hS] at this; exact this)
          have hs : s.length ≤ 1048576 := by have := shellAll_len xs gs; rw [hS] at this; exact this
          have HYS : Hid (fine = true → xs.length ≤ 64 ∧ s = El.srt xs) := Lib.hid (fun hk => by
            by_cases h : OkL xs ∧ OkG gs
            · rw [shellAll_yes h] at hS
              simp only [Prod.mk.injEq] at hS
              exact ⟨h.1.1, by rw [← hS.1]; exact shell_srt h.2⟩
            · rw [shellAll_no h] at hS; simp only [Prod.mk.injEq] at hS; rw [← hS.2.2] at hk; cases hk)
          clear hS
          go_wp2_with fail
          refine (HSI.out _ _ _ _ _ (RX.out.flat hcRX) FG.out).mono ?_
          rintro e w_6 ⟨gRQ, cRQ, rfl, hcRQ, hg, hrow, hb⟩
          simp only at hcRQ hrow
          have hyRQ := Lib.hid hrow
          have FGz := Lib.hid (FG.out.below hb)
          clear FG
          have FG := FGz
          clear FGz
          have RLz := Lib.hid (RL.out.below hb RL.out.1)
          clear RL
          have RL := RLz
          clear RLz
          have RXz := Lib.hid (RX.out.below hb RX.out.1)
          clear RX
          have RX := RXz
          clear RXz
          have BN := Lib.hid (B0.out.trans (hb.mono B0.out.size))
          clear B0
          have B0 := BN
          clear BN
          have RQ := hyRQ
          clear hyRQ hrow hb hg
          go_wp2_with fail
          refine (HSS.out _ _ _ _ _ (RX.out.flat hcRX) FG.out).mono ?_
          rintro e w_7 ⟨gRW, cRW, rfl, hcRW, hg, hrow, hb⟩
          simp only at hcRW hrow
          have hyRW := Lib.hid hrow
          have FGz := Lib.hid (FG.out.below hb)
          clear FG
          have FG := FGz
          clear FGz
          have RLz := Lib.hid (RL.out.below hb RL.out.1)
          clear RL
          have RL := RLz
          clear RLz
          have RXz := Lib.hid (RX.out.below hb RX.out.1)
          clear RX
          have RX := RXz
          clear RXz
          have RQz := Lib.hid (RQ.out.below hb RQ.out.1)
          clear RQ
          have RQ := RQz
          clear RQz
          have BN := Lib.hid (B0.out.trans (hb.mono B0.out.size))
          clear B0
          have B0 := BN
          clear BN
          have RW := hyRW
          clear hyRW hrow hb hg
          go_wp2_with fail
          refine (vInts_yes _ _ s _ (RQ.out.flat hcRQ) (RW.out.flat hcRW) hs).mono ?_
          rintro e w_8 ⟨rfl, hb⟩
          have FGz := Lib.hid (FG.out.below hb)
          clear FG
          have FG := FGz
          clear FGz
          have RLz := Lib.hid (RL.out.below hb RL.out.1)
          clear RL
          have RL := RLz
          clear RLz
          have RXz := Lib.hid (RX.out.below hb RX.out.1)
          clear RX
          have RX := RXz
          clear RXz
          have RQz := Lib.hid (RQ.out.below hb RQ.out.1)
          clear RQ
          have RQ := RQz
          clear RQz
          have RWz := Lib.hid (RW.out.below hb RW.out.1)
          clear RW
          have RW := RWz
          clear RWz
          have BN := Lib.hid (B0.out.trans (hb.mono B0.out.size))
          clear B0
          have B0 := BN
          clear BN
          clear hb
          clear RW FG
          clear HSI HSS
          cases fine
          case false =>
            clear HYS
            go_wp2_with fail
            go_ret
            exact ⟨rfl, B0.out⟩
          obtain ⟨h64, hse⟩ := HYS.out (by first | rfl | trivial)
          have HVO := Lib.hid (fun b o c W (h : FlatAt W (.slice (some ⟨b, o, none⟩) xs.length c) xs.length (ints xs)) => by have := vOrdered_any b o c xs W h h64; rw [← hse] at this; exact this)
          clear hse HYS
          go_wp2_with fail
          refine (HVO.out _ _ _ _ (RX.out.flat hcRX)).mono ?_
          rintro e w_9 ⟨gRO, cRO, rfl, hcRO, hg, hrow, hb⟩
          have hyRO := Lib.hid hrow
          have RLz := Lib.hid (RL.out.below hb RL.out.1)
          clear RL
          have RL := RLz
          clear RLz
          have RXz := Lib.hid (RX.out.below hb RX.out.1)
          clear RX
          have RX := RXz
          clear RXz
          have RQz := Lib.hid (RQ.out.below hb RQ.out.1)
          clear RQ
          have RQ := RQz
          clear RQz
          have BN := Lib.hid (B0.out.trans (hb.mono B0.out.size))
          clear B0
          have B0 := BN
          clear BN
          have RO := hyRO
          clear hyRO hrow hb hg HVO
          go_wp2_with fail
          refine (vInts_yes _ _ s _ (RQ.out.flat hcRQ) (RO.out.flat hcRO) hs).mono ?_
          rintro e w_10 ⟨rfl, hb⟩
          have RLz := Lib.hid (RL.out.below hb RL.out.1)
          clear RL
          have RL := RLz
          clear RLz
          have RXz := Lib.hid (RX.out.below hb RX.out.1)
          clear RX
          have RX := RXz
          clear RXz
          have RQz := Lib.hid (RQ.out.below hb RQ.out.1)
          clear RQ
          have RQ := RQz
          clear RQz
          have ROz := Lib.hid (RO.out.below hb RO.out.1)
          clear RO
          have RO := ROz
          clear ROz
          have BN := Lib.hid (B0.out.trans (hb.mono B0.out.size))
          clear B0
          have B0 := BN
          clear BN
          clear hb
          go_wp2_with fail
          go_ret
          exact ⟨rfl, B0.out⟩
        · have h1z : ¬ (1 : Int) < li.length := by omega
          have hg1 : decide ((1 : Int) < li.length) = false := decide_eq_false h1z
          go_wp2_with fail
          go_quiet (fail)
          have hb : Below wr.heap.size wr (wr.drewN nq) := ⟨rfl, rfl, rfl, Nat.le_refl _, fun _ _ => rfl⟩
          have RLz := Lib.hid (RL.out.below hb RL.out.1)
          clear RL
          have RL := RLz
          clear RLz
          have BN := Lib.hid (B0.out.trans (hb.mono B0.out.size))
          clear B0
          have B0 := BN
          clear BN
          generalize wr.drewN nq = w_11 at *
          clear hb
          have HCODE := Lib.hid (HCODE0.out.below B0.out)
          clear HCODE0
          go_wp2_with fail
          refine (drawShell_any a len cap _ HCODE.out).mono ?_
          rintro e w_12 ⟨gRX, cRX, xs, aG, cG, gs, hlRX, hlG, rfl, hcRX, hrow, hfl, hb⟩
          have hnRX : xs.length ≤ 1048576 := by omega
          have hnG : gs.length ≤ 1048576 := by omega
          have RX := Lib.hid hrow
          have FG := Lib.hid hfl
          have RLz := Lib.hid (RL.out.below hb RL.out.1)
          clear RL
          have RL := RLz
          clear RLz
          have BN := Lib.hid (B0.out.trans (hb.mono B0.out.size))
          clear B0
          have B0 := BN
          clear BN
          clear hrow hfl hb HCODE
          obtain ⟨s, C, fine, hS⟩ : ∃ x y b, shellAll xs gs = (x, y, b) := ⟨_, _, _, rfl⟩
          have HSI := Lib.hid (fun b o c v W (h : FlatAt W (.slice (some ⟨b, o, none⟩) xs.length c) xs.length (ints xs)) (hg : FlatAt W v gs.length (ints gs)) => by have := implShell_any b o c xs v gs W h hnRX hg hnG; rw [hS] at this; exact this)
          have HSS := Lib.hid (fun b o c v W (h : FlatAt W (.slice (some ⟨b, o, none⟩) xs.length c) xs.length (ints xs)) (hg : FlatAt W v gs.length (ints gs)) => by have := specShell_any b o c xs v gs W h hnRX hg hnG; rw [hS] at this; exact this)
          have hs : s.length ≤ 1048576 := by have := shellAll_len xs gs; rw [hS] at this; exact this
          have HYS : Hid (fine = true → xs.length ≤ 64 ∧ s = El.srt xs) := Lib.hid (fun hk => by
            by_cases h : OkL xs ∧ OkG gs
            · rw [shellAll_yes h] at hS
              simp only [Prod.mk.injEq] at hS
              exact ⟨h.1.1, by rw [← hS.1]; exact shell_srt h.2⟩
            · rw [shellAll_no h] at hS; simp only [Prod.mk.injEq] at hS; rw [← hS.2.2] at hk; cases hk)
          clear hS
          go_wp2_with fail
          refine (HSI.out _ _ _ _ _ (RX.out.flat hcRX) FG.out).mono ?_
          rintro e w_13 ⟨gRQ, cRQ, rfl, hcRQ, hg, hrow, hb⟩
          simp only at hcRQ hrow
          have hyRQ := Lib.hid hrow
          have FGz := Lib.hid (FG.out.below hb)
          clear FG
          have FG := FGz
          clear FGz
          have RLz := Lib.hid (RL.out.below hb RL.out.1)
          clear RL
          have RL := RLz
          clear RLz
          have RXz := Lib.hid (RX.out.below hb RX.out.1)
          clear RX
          have RX := RXz
          clear RXz
          have BN := Lib.hid (B0.out.trans (hb.mono B0.out.size))
          clear B0
          have B0 := BN
          clear BN
          have RQ := hyRQ
          clear hyRQ hrow hb hg
          go_wp2_with fail
          refine (HSS.out _ _ _ _ _ (RX.out.flat hcRX) FG.out).mono ?_
          rintro e w_14 ⟨gRW, cRW, rfl, hcRW, hg, hrow, hb⟩
          simp only at hcRW hrow
          have hyRW := Lib.hid hrow
          have FGz := Lib.hid (FG.out.below hb)
          clear FG
          have FG := FGz
          clear FGz
          have RLz := Lib.hid (RL.out.below hb RL.out.1)
          clear RL
          have RL := RLz
          clear RLz
          have RXz := Lib.hid (RX.out.below hb RX.out.1)
          clear RX
          have RX := RXz
          clear RXz
          have RQz := Lib.hid (RQ.out.below hb RQ.out.1)
          clear RQ
          have RQ := RQz
          clear RQz
          have BN := Lib.hid (B0.out.trans (hb.mono B0.out.size))
          clear B0
          have B0 := BN
          clear BN
          have RW := hyRW
          clear hyRW hrow hb hg
          go_wp2_with fail
          refine (vInts_yes _ _ s _ (RQ.out.flat hcRQ) (RW.out.flat hcRW) hs).mono ?_
          rintro e w_15 ⟨rfl, hb⟩
          have FGz := Lib.hid (FG.out.below hb)
          clear FG
          have FG := FGz
          clear FGz
          have RLz := Lib.hid (RL.out.below hb RL.out.1)
          clear RL
          have RL := RLz
          clear RLz
          have RXz := Lib.hid (RX.out.below hb RX.out.1)
          clear RX
          have RX := RXz
          clear RXz
          have RQz := Lib.hid (RQ.out.below hb RQ.out.1)
          clear RQ
          have RQ := RQz
          clear RQz
          have RWz := Lib.hid (RW.out.below hb RW.out.1)
          clear RW
          have RW := RWz
          clear RWz
          have BN := Lib.hid (B0.out.trans (hb.mono B0.out.size))
          clear B0
          have B0 := BN
          clear BN
          clear hb
          clear RW FG
          clear HSI HSS
          cases fine
          case false =>
            clear HYS
            go_wp2_with fail
            go_ret
            exact ⟨rfl, B0.out⟩
          obtain ⟨h64, hse⟩ := HYS.out (by first | rfl | trivial)
          have HVO := Lib.hid (fun b o c W (h : FlatAt W (.slice (some ⟨b, o, none⟩) xs.length c) xs.length (ints xs)) => by have := vOrdered_any b o c xs W h h64; rw [← hse] at this; exact this)
          clear hse HYS
          go_wp2_with fail
          refine (HVO.out _ _ _ _ (RX.out.flat hcRX)).mono ?_
          rintro e w_16 ⟨gRO, cRO, rfl, hcRO, hg, hrow, hb⟩
          have hyRO := Lib.hid hrow
          have RLz := Lib.hid (RL.out.below hb RL.out.1)
          clear RL
          have RL := RLz
          clear RLz
          have RXz := Lib.hid (RX.out.below hb RX.out.1)
          clear RX
          have RX := RXz
          clear RXz
          have RQz := Lib.hid (RQ.out.below hb RQ.out.1)
          clear RQ
          have RQ := RQz
          clear RQz
          have BN := Lib.hid (B0.out.trans (hb.mono B0.out.size))
          clear B0
          have B0 := BN
          clear BN
          have RO := hyRO
          clear hyRO hrow hb hg HVO
          go_wp2_with fail
          refine (vInts_yes _ _ s _ (RQ.out.flat hcRQ) (RO.out.flat hcRO) hs).mono ?_
          rintro e w_17 ⟨rfl, hb⟩
          have RLz := Lib.hid (RL.out.below hb RL.out.1)
          clear RL
          have RL := RLz
          clear RLz
          have RXz := Lib.hid (RX.out.below hb RX.out.1)
          clear RX
          have RX := RXz
          clear RXz
          have RQz := Lib.hid (RQ.out.below hb RQ.out.1)
          clear RQ
          have RQ := RQz
          clear RQz
          have ROz := Lib.hid (RO.out.below hb RO.out.1)
          clear RO
          have RO := ROz
          clear ROz
          have BN := Lib.hid (B0.out.trans (hb.mono B0.out.size))
          clear B0
          have B0 := BN
          clear BN
          clear hb
          go_wp2_with fail
          go_ret
          exact ⟨rfl, B0.out⟩
    have HY := Lib.hid (HYES.out (by first | rfl | trivial))
    clear HYES
    go_wp2_with fail
    go_loopw [8] (fun iv wr => ∃ (k m : Nat), k ≤ li.length ∧ iv = .int .i64 k ∧ wr = (w_3).drewN m) (fun iv _ => li.length - (intOf iv).toNat)
    case atStart => exact ⟨0, 0, Nat.zero_le _, rfl, rfl⟩
    case round =>
      obtain ⟨k, m', hk, rfl, rfl⟩ := hrel
      have hwk : IntKind.i64.wrap ((k : Int) + 1) = ((k + 1 : Nat) : Int) := by rw [IntKind.wrap_i64]; omega
      by_cases hlt : k + 1 < li.length
      · obtain ⟨x, hx⟩ : ∃ x, x = li.getD k 0 := ⟨_, rfl⟩
        obtain ⟨y, hy⟩ : ∃ y, y = li.getD (k + 1) 0 := ⟨_, rfl⟩
        have hc1 := (RL.out.2 k _ (ints_at (P.at_getD (by omega)))).1
        have hc2 := (RL.out.2 (k + 1) _ (ints_at (P.at_getD hlt))).1
        rw [← hx] at hc1
        rw [← hy] at hc2
        have HX := Lib.hid hx
        have HYY := Lib.hid hy
        have hkz : (k : Int) < li.length := by omega
        have hk1z : ((k + 1 : Nat) : Int) < li.length := by omega
        clear hx hy
        by_cases hd : y < x
        · have hgt : decide (y < x) = true := decide_eq_true hd
          obtain ⟨j, rfl, hj1, hj2, hjk⟩ : ∃ j : Nat, at0 = j ∧ j + 1 < li.length ∧ 0 ≤ j ∧ j ≤ k := by
            rcases HY.out with ⟨_, h⟩ | ⟨j, h1, h2, h3, h4⟩
            · have hh := h k hlt
              rw [← HX.out, ← HYY.out] at hh
              omega
            · refine ⟨j, h1, h2, Nat.zero_le _, ?_⟩
              apply Classical.byContradiction
              intro hc
              have hh := h4 k (by omega)
              rw [← HX.out, ← HYY.out] at hh
              omega
          have hj0 : ¬ (j : Int) < 0 := by omega
          have hjd : decide ((j : Int) < 0) = false := decide_eq_false hj0
          have hkj : ¬ (k : Int) < (j : Int) := by omega
          have hkj' : ¬ k < j := by omega
          have hkd : decide ((k : Int) < (j : Int)) = false := decide_eq_false hkj
          go_wp2_with fail
          go_quiet (fail)
          go_wp2_with fail
          go_roundw
          case rel => exact ⟨k + 1, m' + nq, by omega, by go_num, by first | trivial | rfl | simp⟩
          case measure => simp [intOf]; omega
        · have hgt : decide (y < x) = false := decide_eq_false hd
          go_wp2_with fail
          go_quiet (fail)
          go_wp2_with fail
          go_roundw
          case rel => exact ⟨k + 1, m' + nq, by omega, by go_num, by first | trivial | rfl | simp⟩
          case measure => simp [intOf]; omega
      · have hlz : ¬ ((k + 1 : Nat) : Int) < li.length := by omega
        have hwx : Below w_3.heap.size w_3 ((w_3).drewN m') := ⟨rfl, rfl, rfl, Nat.le_refl _, fun _ _ => rfl⟩
        have hb := hwx
        clear hwx
        have RLz := Lib.hid (RL.out.below hb RL.out.1)
        clear RL
        have RL := RLz
        clear RLz
        have BN := Lib.hid (B0.out.trans (hb.mono B0.out.size))
        clear B0
        have B0 := BN
        clear BN
        generalize (w_3).drewN m' = w_18 at *
        clear hb
        rcases HY.out with ⟨rfl, _⟩ | ⟨j, rfl, hj1, hj2, _⟩
        · have hm1 : decide ((0 : Int) ≤ -1) = false := by decide
          clear HY
          go_wp2_with fail
          go_quiet (fail)
          have hb : Below w_18.heap.size w_18 (w_18.drewN nq) := ⟨rfl, rfl, rfl, Nat.le_refl _, fun _ _ => rfl⟩
          have RLz := Lib.hid (RL.out.below hb RL.out.1)
          clear RL
          have RL := RLz
          clear RLz
          have BN := Lib.hid (B0.out.trans (hb.mono B0.out.size))
          clear B0
          have B0 := BN
          clear BN
          generalize w_18.drewN nq = w_19 at *
          clear hb
          have HCODE := Lib.hid (HCODE0.out.below B0.out)
          clear HCODE0
          go_wp2_with fail
          refine (drawShell_any a len cap _ HCODE.out).mono ?_
          rintro e w_20 ⟨gRX, cRX, xs, aG, cG, gs, hlRX, hlG, rfl, hcRX, hrow, hfl, hb⟩
          have hnRX : xs.length ≤ 1048576 := by omega
          have hnG : gs.length ≤ 1048576 := by omega
          have RX := Lib.hid hrow
          have FG := Lib.hid hfl
          have RLz := Lib.hid (RL.out.below hb RL.out.1)
          clear RL
          have RL := RLz
          clear RLz
          have BN := Lib.hid (B0.out.trans (hb.mono B0.out.size))
          clear B0
          have B0 := BN
          clear BN
          clear hrow hfl hb HCODE
          obtain ⟨s, C, fine, hS⟩ : ∃ x y b, shellAll xs gs = (x, y, b) := ⟨_, _, _, rfl⟩
          have HSI := Lib.hid (fun b o c v W (h : FlatAt W (.slice (some ⟨b, o, none⟩) xs.length c) xs.length (ints xs)) (hg : FlatAt W v gs.length (ints gs)) => by have := implShell_any b o c xs v gs W h hnRX hg hnG; rw [hS] at this; exact this)
          have HSS := Lib.hid (fun b o c v W (h : FlatAt W (.slice (some ⟨b, o, none⟩) xs.length c) xs.length (ints xs)) (hg : FlatAt W v gs.length (ints gs)) => by have := specShell_any b o c xs v gs W h hnRX hg hnG; rw [hS] at this; exact this)
          have hs : s.length ≤ 1048576 := by have := shellAll_len xs gs; rw [hS] at this; exact this
          have HYS : Hid (fine = true → xs.length ≤ 64 ∧ s = El.srt xs) := Lib.hid (fun hk => by
            by_cases h : OkL xs ∧ OkG gs
            · rw [shellAll_yes h] at hS
              simp only [Prod.mk.injEq] at hS
              exact ⟨h.1.1, by rw [← hS.1]; exact shell_srt h.2⟩
            · rw [shellAll_no h] at hS; simp only [Prod.mk.injEq] at hS; rw [← hS.2.2] at hk; cases hk)
          clear hS
          go_wp2_with fail
          refine (HSI.out _ _ _ _ _ (RX.out.flat hcRX) FG.out).mono ?_
          rintro e w_21 ⟨gRQ, cRQ, rfl, hcRQ, hg, hrow, hb⟩
          simp only at hcRQ hrow
          have hyRQ := Lib.hid hrow
          have FGz := Lib.hid (FG.out.below hb)
          clear FG
          have FG := FGz
          clear FGz
          have RLz := Lib.hid (RL.out.below hb RL.out.1)
          clear RL
          have RL := RLz
          clear RLz
          have RXz := Lib.hid (RX.out.below hb RX.out.1)
          clear RX
          have RX := RXz
          clear RXz
          have BN := Lib.hid (B0.out.trans (hb.mono B0.out.size))
          clear B0
          have B0 := BN
          clear BN
          have RQ := hyRQ
          clear hyRQ hrow hb hg
          go_wp2_with fail
          refine (HSS.out _ _ _ _ _ (RX.out.flat hcRX) FG.out).mono ?_
          rintro e w_22 ⟨gRW, cRW, rfl, hcRW, hg, hrow, hb⟩
          simp only at hcRW hrow
          have hyRW := Lib.hid hrow
          have FGz := Lib.hid (FG.out.below hb)
          clear FG
          have FG := FGz
          clear FGz
          have RLz := Lib.hid (RL.out.below hb RL.out.1)
          clear RL
          have RL := RLz
          clear RLz
          have RXz := Lib.hid (RX.out.below hb RX.out.1)
          clear RX
          have RX := RXz
          clear RXz
          have RQz := Lib.hid (RQ.out.below hb RQ.out.1)
          clear RQ
          have RQ := RQz
          clear RQz
          have BN := Lib.hid (B0.out.trans (hb.mono B0.out.size))
          clear B0
          have B0 := BN
          clear BN
          have RW := hyRW
          clear hyRW hrow hb hg
          go_wp2_with fail
          refine (vInts_yes _ _ s _ (RQ.out.flat hcRQ) (RW.out.flat hcRW) hs).mono ?_
          rintro e w_23 ⟨rfl, hb⟩
          have FGz := Lib.hid (FG.out.below hb)
          clear FG
          have FG := FGz
          clear FGz
          have RLz := Lib.hid (RL.out.below hb RL.out.1)
          clear RL
          have RL := RLz
          clear RLz
          have RXz := Lib.hid (RX.out.below hb RX.out.1)
          clear RX
          have RX := RXz
          clear RXz
          have RQz := Lib.hid (RQ.out.below hb RQ.out.1)
          clear RQ
          have RQ := RQz
          clear RQz
          have RWz := Lib.hid (RW.out.below hb RW.out.1)
          clear RW
          have RW := RWz
          clear RWz
          have BN := Lib.hid (B0.out.trans (hb.mono B0.out.size))
          clear B0
          have B0 := BN
          clear BN
          clear hb
          clear RW FG
          clear HSI HSS
          cases fine
          case false =>
            clear HYS
            go_wp2_with fail
            go_ret
            exact ⟨rfl, B0.out⟩
          obtain ⟨h64, hse⟩ := HYS.out (by first | rfl | trivial)
          have HVO := Lib.hid (fun b o c W (h : FlatAt W (.slice (some ⟨b, o, none⟩) xs.length c) xs.length (ints xs)) => by have := vOrdered_any b o c xs W h h64; rw [← hse] at this; exact this)
          clear hse HYS
          go_wp2_with fail
          refine (HVO.out _ _ _ _ (RX.out.flat hcRX)).mono ?_
          rintro e w_24 ⟨gRO, cRO, rfl, hcRO, hg, hrow, hb⟩
          have hyRO := Lib.hid hrow
          have RLz := Lib.hid (RL.out.below hb RL.out.1)
          clear RL
          have RL := RLz
          clear RLz
          have RXz := Lib.hid (RX.out.below hb RX.out.1)
          clear RX
          have RX := RXz
          clear RXz
          have RQz := Lib.hid (RQ.out.below hb RQ.out.1)
          clear RQ
          have RQ := RQz
          clear RQz
          have BN := Lib.hid (B0.out.trans (hb.mono B0.out.size))
          clear B0
          have B0 := BN
          clear BN
          have RO := hyRO
          clear hyRO hrow hb hg HVO
          go_wp2_with fail
          refine (vInts_yes _ _ s _ (RQ.out.flat hcRQ) (RO.out.flat hcRO) hs).mono ?_
          rintro e w_25 ⟨rfl, hb⟩
          have RLz := Lib.hid (RL.out.below hb RL.out.1)
          clear RL
          have RL := RLz
          clear RLz
          have RXz := Lib.hid (RX.out.below hb RX.out.1)
          clear RX
          have RX := RXz
          clear RXz
          have RQz := Lib.hid (RQ.out.below hb RQ.out.1)
          clear RQ
          have RQ := RQz
          clear RQz
          have ROz := Lib.hid (RO.out.below hb RO.out.1)
          clear RO
          have RO := ROz
          clear ROz
          have BN := Lib.hid (B0.out.trans (hb.mono B0.out.size))
          clear B0
          have B0 := BN
          clear BN
          clear hb
          go_wp2_with fail
          go_ret
          exact ⟨rfl, B0.out⟩
        · obtain ⟨x, hx⟩ : ∃ x, x = li.getD j 0 := ⟨_, rfl⟩
          obtain ⟨y, hy⟩ : ∃ y, y = li.getD (j + 1) 0 := ⟨_, rfl⟩
          have hc1 := (RL.out.2 j _ (ints_at (P.at_getD (by omega)))).1
          have hc2 := (RL.out.2 (j + 1) _ (ints_at (P.at_getD hj1))).1
          rw [← hx] at hc1
          rw [← hy] at hc2
          rw [← hx, ← hy] at hj2
          have hle : decide (x ≤ y) = false := decide_eq_false (by omega)
          have hj0 : (0 : Int) ≤ (j : Int) := by omega
          have hjd : decide ((0 : Int) ≤ (j : Int)) = true := decide_eq_true hj0
          obtain ⟨j1, hj1e⟩ : ∃ j1, j1 = j + 1 := ⟨_, rfl⟩
          have hwj : IntKind.i64.wrap ((j : Int) + 1) = (j1 : Int) := by rw [IntKind.wrap_i64]; omega
          rw [← hj1e] at hc2 hj1
          have hjz : (j : Int) < li.length := by omega
          have hj1z : (j1 : Int) < li.length := by omega
          have hjl : j < li.length := by omega
          have hjn : ¬ (li.length : Int) ≤ (j1 : Int) := by omega
          have hjn' : ¬ li.length ≤ j1 := by omega
          have hjnd : decide ((li.length : Int) ≤ (j1 : Int)) = false := decide_eq_false hjn
          have hjnd' : decide (li.length ≤ j1) = false := decide_eq_false hjn'
          clear hj1e
          clear hx hy hj2 HY
          go_wp2_with fail
          go_quiet (fail)
          have hb : Below w_18.heap.size w_18 (w_18.drewN nq) := ⟨rfl, rfl, rfl, Nat.le_refl _, fun _ _ => rfl⟩
          have RLz := Lib.hid (RL.out.below hb RL.out.1)
          clear RL
          have RL := RLz
          clear RLz
          have BN := Lib.hid (B0.out.trans (hb.mono B0.out.size))
          clear B0
          have B0 := BN
          clear BN
          generalize w_18.drewN nq = w_26 at *
          clear hb
          have HCODE := Lib.hid (HCODE0.out.below B0.out)
          clear HCODE0
          go_wp2_with fail
          refine (drawShell_any a len cap _ HCODE.out).mono ?_
          rintro e w_27 ⟨gRX, cRX, xs, aG, cG, gs, hlRX, hlG, rfl, hcRX, hrow, hfl, hb⟩
          have hnRX : xs.length ≤ 1048576 := by omega
          have hnG : gs.length ≤ 1048576 := by omega
          have RX := Lib.hid hrow
          have FG := Lib.hid hfl
          have RLz := Lib.hid (RL.out.below hb RL.out.1)
          clear RL
          have RL := RLz
          clear RLz
          have BN := Lib.hid (B0.out.trans (hb.mono B0.out.size))
          clear B0
          have B0 := BN
          clear BN
          clear hrow hfl hb HCODE
          obtain ⟨s, C, fine, hS⟩ : ∃ x y b, shellAll xs gs = (x, y, b) := ⟨_, _, _, rfl⟩
          have HSI := Lib.hid (fun b o c v W (h : FlatAt W (.slice (some ⟨b, o, none⟩) xs.length c) xs.length (ints xs)) (hg : FlatAt W v gs.length (ints gs)) => by have := implShell_any b o c xs v gs W h hnRX hg hnG; rw [hS] at this; exact this)
          have HSS := Lib.hid (fun b o c v W (h : FlatAt W (.slice (some ⟨b, o, none⟩) xs.length c) xs.length (ints xs)) (hg : FlatAt W v gs.length (ints gs)) => by have := specShell_any b o c xs v gs W h hnRX hg hnG; rw [hS] at this; exact this)
          have hs : s.length ≤ 1048576 := by have := shellAll_len xs gs; rw [hS] at this; exact this
          have HYS : Hid (fine = true → xs.length ≤ 64 ∧ s = El.srt xs) := Lib.hid (fun hk => by
            by_cases h : OkL xs ∧ OkG gs
            · rw [shellAll_yes h] at hS
              simp only [Prod.mk.injEq] at hS
              exact ⟨h.1.1, by rw [← hS.1]; exact shell_srt h.2⟩
            · rw [shellAll_no h] at hS; simp only [Prod.mk.injEq] at hS; rw [← hS.2.2] at hk; cases hk)
          clear hS
          go_wp2_with fail
          refine (HSI.out _ _ _ _ _ (RX.out.flat hcRX) FG.out).mono ?_
          rintro e w_28 ⟨gRQ, cRQ, rfl, hcRQ, hg, hrow, hb⟩
          simp only at hcRQ hrow
          have hyRQ := Lib.hid hrow
          have FGz := Lib.hid (FG.out.below hb)
          clear FG
          have FG := FGz
          clear FGz
          have RLz := Lib.hid (RL.out.below hb RL.out.1)
          clear RL
          have RL := RLz
          clear RLz
          have RXz := Lib.hid (RX.out.below hb RX.out.1)
          clear RX
          have RX := RXz
          clear RXz
          have BN := Lib.hid (B0.out.trans (hb.mono B0.out.size))
          clear B0
          have B0 := BN
          clear BN
          have RQ := hyRQ
          clear hyRQ hrow hb hg
          go_wp2_with fail
          refine (HSS.out _ _ _ _ _ (RX.out.flat hcRX) FG.out).mono ?_
          rintro e w_29 ⟨gRW, cRW, rfl, hcRW, hg, hrow, hb⟩
          simp only at hcRW hrow
          have hyRW := Lib.hid hrow
          have FGz := Lib.hid (FG.out.below hb)
          clear FG
          have FG := FGz
          clear FGz
          have RLz := Lib.hid (RL.out.below hb RL.out.1)
          clear RL
          have RL := RLz
          clear RLz
          have RXz := Lib.hid (RX.out.below hb RX.out.1)
          clear RX
          have RX := RXz
          clear RXz
          have RQz := Lib.hid (RQ.out.below hb RQ.out.1)
          clear RQ
          have RQ := RQz
          clear RQz
          have BN := Lib.hid (B0.out.trans (hb.mono B0.out.size))
          clear B0
          have B0 := BN
          clear BN
          have RW := hyRW
          clear hyRW hrow hb hg
          go_wp2_with fail
          refine (vInts_yes _ _ s _ (RQ.out.flat hcRQ) (RW.out.flat hcRW) hs).mono ?_
          rintro e w_30 ⟨rfl, hb⟩
          have FGz := Lib.hid (FG.out.below hb)
          clear FG
          have FG := FGz
          clear FGz
          have RLz := Lib.hid (RL.out.below hb RL.out.1)
          clear RL
          have RL := RLz
          clear RLz
          have RXz := Lib.hid (RX.out.below hb RX.out.1)
          clear RX
          have RX := RXz
          clear RXz
          have RQz := Lib.hid (RQ.out.below hb RQ.out.1)
          clear RQ
          have RQ := RQz
          clear RQz
          have RWz := Lib.hid (RW.out.below hb RW.out.1)
          clear RW
          have RW := RWz
          clear RWz
          have BN := Lib.hid (B0.out.trans (hb.mono B0.out.size))
          clear B0
          have B0 := BN
          clear BN
          clear hb
          clear RW FG
          clear HSI HSS
          cases fine
          case false =>
            clear HYS
            go_wp2_with fail
            go_ret
            exact ⟨rfl, B0.out⟩
          obtain ⟨h64, hse⟩ := HYS.out (by first | rfl | trivial)
          have HVO := Lib.hid (fun b o c W (h : FlatAt W (.slice (some ⟨b, o, none⟩) xs.length c) xs.length (ints xs)) => by have := vOrdered_any b o c xs W h h64; rw [← hse] at this; exact this)
          clear hse HYS
          go_wp2_with fail
          refine (HVO.out _ _ _ _ (RX.out.flat hcRX)).mono ?_
          rintro e w_31 ⟨gRO, cRO, rfl, hcRO, hg, hrow, hb⟩
          have hyRO := Lib.hid hrow
          have RLz := Lib.hid (RL.out.below hb RL.out.1)
          clear RL
          have RL := RLz
          clear RLz
          have RXz := Lib.hid (RX.out.below hb RX.out.1)
          clear RX
          have RX := RXz
          clear RXz
          have RQz := Lib.hid (RQ.out.below hb RQ.out.1)
          clear RQ
          have RQ := RQz
          clear RQz
          have BN := Lib.hid (B0.out.trans (hb.mono B0.out.size))
          clear B0
          have B0 := BN
          clear BN
          have RO := hyRO
          clear hyRO hrow hb hg HVO
          go_wp2_with fail
          refine (vInts_yes _ _ s _ (RQ.out.flat hcRQ) (RO.out.flat hcRO) hs).mono ?_
          rintro e w_32 ⟨rfl, hb⟩
          have RLz := Lib.hid (RL.out.below hb RL.out.1)
          clear RL
          have RL := RLz
          clear RLz
          have RXz := Lib.hid (RX.out.below hb RX.out.1)
          clear RX
          have RX := RXz
          clear RXz
          have RQz := Lib.hid (RQ.out.below hb RQ.out.1)
          clear RQ
          have RQ := RQz
          clear RQz
          have ROz := Lib.hid (RO.out.below hb RO.out.1)
          clear RO
          have RO := ROz
          clear ROz
          have BN := Lib.hid (B0.out.trans (hb.mono B0.out.size))
          clear B0
          have B0 := BN
          clear BN
          clear hb
          go_wp2_with fail
          go_ret
          exact ⟨rfl, B0.out⟩

set_option maxRecDepth 100000 in
theorem lifted (os : Os) (started : os.Started) (H : Type) (enc : TypeId × Value → H) :
    ReturnsInHanded {} Try.checked os 9 .any (Rows.fnSortedSpec.pre6 enc Try.prog Try.f9 Rows.fnSortedRow.domain false) (Rows.fnSortedSpec.post enc Try.prog Try.f9 false true false false) := by
  refine returnsInHanded_of_change (C := Try.checked) own started (by kernel_rfl) Try.func9
    (ChangeSpec.witness6 (enc := enc) (C := Try.checked) false ⟨#[], #[.slice none 0 0], []⟩ 8 (by kernel_rfl) (by kernel_rfl) (by kernel_rfl) (by kernel_rfl)) ?_
  intro W base args ds gs before hval0 hW hcnd _
  have hval : ∀ (j : Nat) t v, Try.f9.params[j]? = some t → args[j]? = some v → Value.okWide Try.prog W .any base t v := hval0
  have hW' := hW
  obtain ⟨p, q, hA0, hV, rfl, hfz, hnd⟩ := hW
  have hA : DataW.TrodAll enc Try.prog W 0 (fun _ => true) true Try.f9.params.toList args.toList ds p := hA0
  rw [Try.params9] at hA hval
  obtain ⟨v0, vs0, d0, ds0, p0, q0, hargs, rfl, rfl, h0, r0⟩ := trodAll_cons hA
  obtain ⟨rfl, rfl, rfl⟩ := trodAll_nil r0
  obtain rfl : args = #[v0] := by cases args; simp_all
  obtain ⟨rfl, rfl⟩ := trodVars_none hV
  obtain ⟨a0, len0, cap0, rfl⟩ := okWide_slice Try.underlying22 (hval 0 22 v0 rfl rfl)
  have k0 := h0
  have lt0 : ∀ x ∈ p0, x.block < W.heap.size := by obtain ⟨m, hm⟩ := k0; exact DataW.trod_lt m _ _ _ hm
  obtain ⟨z0, w0⟩ : ∃ zs, IsRow .u8 W a0 len0 cap0 zs := by
    obtain ⟨fuel, hf⟩ := h0
    rcases open_ints Try.underlying22 Try.underlying5 (by kernel_rfl) hf with ⟨hcs, _⟩ | ⟨x, l, c, zs, hcs, _, hl, hm, hz, _, hcell, hwz⟩
    · simp [Value.cells] at hcs
      obtain ⟨rfl, rfl, rfl⟩ := hcs
      exact ⟨[], .inl ⟨rfl, rfl, rfl, rfl⟩⟩
    · simp [Value.cells] at hcs
      obtain ⟨rfl, rfl, rfl⟩ := hcs
      exact ⟨zs, .inr ⟨_, rfl, hl, hm, by simpa using hz, hcell, hwz⟩⟩
  clear hA0 hval0
  refine (walk a0 len0 cap0 z0 W w0).mono fun e W' ⟨he, bel⟩ => ?_
  subst he
  exact ⟨_, rfl, _, _, _, [], _, [], hW', trodAll_mk1 (shut_bool Try.underlying4 _), (trodAll_cons_mk (Below.trod laidOut (by kernel_rfl) (of_decide_eq_true (by kernel_rfl)) k0 bel lt0) trodAll_mk0), rfl, bel.frame _, fun h => by cases h⟩

theorem closed : joinedFacts Try.prog 9 Try.f9 Rows.fnSortedSpec Rows.fnSortedRow = true := by
  unfold joinedFacts
  rw [head_enter, head_final, head_make]
  kernel_rfl

theorem over : Rows.fnSortedRow.holds Try.pinned (OpenSpec.ofChange Rows.fnSortedSpec) :=
  OpenClaim.holds_of_wide 9 Try.f9 rfl rfl rfl rfl rfl rfl rfl ⟨rfl, rfl, rfl, rfl, rfl⟩ rfl rfl rfl rfl rfl (by kernel_rfl) Try.func9 closed
    (of_decide_eq_true (by kernel_rfl)) (by unfold Func.isWrapper; first | (rw [if_pos (by decide +kernel)]; kernel_rfl) | (rw [if_neg (by decide +kernel)]; exact ⟨rfl, rfl⟩))
    (fun os started H enc _ => lifted os started H enc)

theorem proved : Rows.FnSortedSaid := over
#print axioms proved
end Go.Proofs.Ytjmmhakmidddoaa.fnSorted
