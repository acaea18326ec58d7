/- FnFenwick returns true at every input. No condition. -/
import Derived.Test.YtgfdpjmhdijdiaaRows
import Derived.WalkKit
import Derived.ProofKit
import Derived.OpenShut
import Derived.ShutString
import Derived.ChangeOld
import Derived.Below
import Derived.SliceStrings
import Derived.Test.YtgfdpjmhdijdiaaHead
import Derived.Test.YtgfdpjmhdijdiaaDrawFw
import Derived.Test.YtgfdpjmhdijdiaaIFb
import Derived.Test.YtgfdpjmhdijdiaaSFb
import Derived.Test.YtgfdpjmhdijdiaaIFp
import Derived.Test.YtgfdpjmhdijdiaaIFa
import Derived.Test.YtgfdpjmhdijdiaaOpenFen
import Derived.Test.YtgfdpjmhdijdiaaVInts
import Derived.Test.YtgfdpjmhdijdiaaVAt
import Derived.Test.YtgfdpjmhdijdiaaCode
namespace Go.Proofs.Ytgfdpjmhdijdiaa.fnFenwick
open Go.ChangeShapes Go.WideShapes Go.ChangeAt Go.RowKit
open Go.ChangeMaps (open_string shut_string)
set_option linter.unusedVariables false

theorem own : ownKnob Try.prog.godebug = none := by kernel_rfl
theorem laidOut : laidOutB Try.prog = true := by kernel_rfl

def IsRow (k : IntKind) (w : World) (a : Option Addr) (len cap : Nat) (zs : List Int) : Prop :=
  (a = none ∧ len = 0 ∧ cap = 0 ∧ zs = []) ∨
  ∃ x, a = some x ∧ len ≤ cap ∧ cap ≤ maxLen ∧ zs.length = cap ∧ (∀ i, i < zs.length → w.cell? (x.add i) = some (.int k (zs.getD i 0))) ∧ ∀ n ∈ zs, (Lit.int k n).wf = true

theorem code_of {w : World} {a : Option Addr} {len cap : Nat} {zs : List Int} (h : IsRow .u8 w a len cap zs) : Code0 w a len := by
  intro k hk
  rcases h with ⟨_, rfl, _⟩ | ⟨x, rfl, hlc, _, hz, hc, hw⟩
  · omega
  · have hkz : k < zs.length := by omega
    have hd : zs.getD k 0 = zs[k] := by simp [List.getD, hkz]
    have hm := hw zs[k] (List.getElem_mem hkz)
    have hcell := hc k hkz
    rw [hd] at hcell
    have hlt := World.block_lt_of_cell? w _ hcell
    have hbk := Go.ChangeShapes.block_add x k
    have hr := bounds_u8 hm
    exact ⟨x, zs[k], rfl, by omega, hcell, hr.1, hr.2⟩

theorem vbig_no (a : Option Addr) (len cap : Nat) (w : World) (h : len ≤ 65536) : Calls Try.prog 24 #[.slice a len cap] w fun e w' => e = .returned (.bool false) ∧ w' = w := by
  go_enter Try.func24, Try.ntmps24
  have hq : decide ((65536 : Int) < (len : Int)) = false := decide_eq_false (by omega)
  go_wp2
  go_ret
  exact ⟨by rw [← hq]; rfl, rfl⟩

set_option maxRecDepth 100000 in
set_option maxHeartbeats 40000000 in
theorem below_drewN (B : Nat) (w : World) (k : Nat) : Below B w (w.drewN k) := ⟨rfl, rfl, rfl, Nat.le_refl _, fun _ _ => rfl⟩
set_option maxRecDepth 100000 in
set_option maxHeartbeats 1000000 in
open Fw in
theorem walk (a : Option Addr) (len cap : Nat) (z : List Int) (w : World) (w0 : IsRow .u8 w a len cap z) :
    Calls Try.prog 8 #[.slice a len cap] w fun e w' => e = .returned (.bool true) ∧ Below w.heap.size w w' := by
  have hlen : len ≤ maxLen := by
    rcases w0 with ⟨_, rfl, _⟩ | ⟨x, _, h1, h2, _⟩ <;> omega
  unfold maxLen at hlen
  have HCODE := Lib.hid (code_of w0)
  clear w0
  by_cases hbig : 65536 < len
  · clear HCODE
    go_enter Try.func8, Try.ntmps8
    go_wp2
    go_ret
    exact ⟨rfl, Below.refl _ _⟩
  · go_enter Try.func8, Try.ntmps8
    go_wp2_with fail
    refine (vbig_no a len cap _ (by omega)).mono ?_
    rintro e w0 ⟨rfl, rfl⟩
    have HLEN : Hid (len ≤ 65536) := Lib.hid (by omega)
    clear hlen hbig
    have B0 : Hid (Below w0.heap.size w0 w0) := Lib.hid (Below.refl _ _)
    have HCODE0 := HCODE
    go_wp2_with fail
    refine (drawBf_any a len cap _ HCODE.out).mono ?_
    rintro e w_1 ⟨gL, cL, li, hl65, hlx, rfl, hcL, hgL, hrow, hb⟩
    have RL := Lib.hid hrow
    have BN := Lib.hid (B0.out.trans (hb.mono B0.out.size))
    clear B0
    have B0 := BN
    clear BN
    clear hrow hb hgL HCODE
    have hnl : li.length ≤ 1048576 := by omega
    by_cases hok : OkM li
    case neg =>
      have HSB := Lib.hid (specFb_any gL 0 cL li)
      go_wp2_with fail
      refine (implFbB_any gL 0 cL li w_1 (RL.out.flat hcL) hnl).mono ?_
      rintro e w_2 h
      rcases h with ⟨h, _⟩ | ⟨_, aF, cF, rfl, hb⟩
      · exact absurd h hok
      have RLz := Lib.hid (RL.out.below hb RL.out.1)
      clear RL
      have RL := RLz
      clear RLz
      have BN := Lib.hid (B0.out.trans (hb.mono B0.out.size))
      clear B0
      have B0 := BN
      clear BN
      clear hb
      obtain ⟨w_3, hWN, hxN, hzN, hb⟩ := box1 w_2 53 (.slice aF 0 cF)
      have RLz := Lib.hid (RL.out.below hb RL.out.1)
      clear RL
      have RL := RLz
      clear RLz
      have BN := Lib.hid (B0.out.trans (hb.mono B0.out.size))
      clear B0
      have B0 := BN
      clear BN
      have VF := Lib.hid hxN
      have hcVF := Boxed.cell VF.out
      have hWrVF := hWN.symm
      clear hWN hxN hzN hb
      go_wp2_with fail
      refine (HSB.out w_3 (RL.out.flat hcL) hnl).mono ?_
      rintro e w_4 h
      rw [bldF_no hok] at h
      obtain ⟨aS, cS, rfl, hb⟩ := h.zero rfl
      have RLz := Lib.hid (RL.out.below hb RL.out.1)
      have VFz := Lib.hid (boxed_below VF.out hb (Boxed.lt VF.out))
      clear RL
      have RL := RLz
      clear RLz
      clear VF
      have VF := VFz
      clear VFz
      clear hcVF
      have hcVF := Boxed.cell VF.out
      have BN := Lib.hid (B0.out.trans (hb.mono B0.out.size))
      clear B0
      have B0 := BN
      clear BN
      clear hb h
      obtain ⟨w_5, hWN, hxN, hzN, hb⟩ := box1 w_4 53 (.slice aS 0 cS)
      have RLz := Lib.hid (RL.out.below hb RL.out.1)
      have VFz := Lib.hid (boxed_below VF.out hb (Boxed.lt VF.out))
      clear RL
      have RL := RLz
      clear RLz
      clear VF
      have VF := VFz
      clear VFz
      clear hcVF
      have hcVF := Boxed.cell VF.out
      have BN := Lib.hid (B0.out.trans (hb.mono B0.out.size))
      clear B0
      have B0 := BN
      clear BN
      have VS := Lib.hid hxN
      have hcVS := Boxed.cell VS.out
      have hWrVS := hWN.symm
      clear hWN hxN hzN hb
      clear hok HSB
      go_wp2_with fail
      go_ret
      exact ⟨rfl, B0.out⟩
    have h64 := hok.1
    have HOK := Lib.hid hok
    have hbl : (bs li).length = li.length := bs_len li
    have HSB := Lib.hid (specFb_any gL 0 cL li)
    go_wp2_with fail
    refine (implFbB_any gL 0 cL li w_1 (RL.out.flat hcL) hnl).mono ?_
    rintro e w_2 h
    rcases h with ⟨_, gF, cF, rfl, hcF, hgF, hrow, hb⟩ | ⟨h, _⟩
    case inr => exact absurd hok h
    simp only [hbl] at hcF ⊢
    have RF := Lib.hid hrow
    have RLz := Lib.hid (RL.out.below hb RL.out.1)
    clear RL
    have RL := RLz
    clear RLz
    have BN := Lib.hid (B0.out.trans (hb.mono B0.out.size))
    clear B0
    have B0 := BN
    clear BN
    clear hrow hb hgF
    obtain ⟨w_3, hWN, hxN, hzN, hb⟩ := box1 w_2 53 (.slice (some ⟨gF, 0, none⟩) li.length cF)
    have RLz := Lib.hid (RL.out.below hb RL.out.1)
    have RFz := Lib.hid (RF.out.below hb RF.out.1)
    clear RL
    have RL := RLz
    clear RLz
    clear RF
    have RF := RFz
    clear RFz
    have BN := Lib.hid (B0.out.trans (hb.mono B0.out.size))
    clear B0
    have B0 := BN
    clear BN
    have VF := Lib.hid hxN
    have hcVF := Boxed.cell VF.out
    have hWrVF := hWN.symm
    clear hWN hxN hzN hb
    go_wp2_with fail
    refine (HSB.out w_3 (RL.out.flat hcL) hnl).mono ?_
    rintro e w_x h
    rw [bldF_yes hok] at h
    obtain ⟨aS, nS, cS, he, hb⟩ : ∃ aS nS cS, e = .returned (.tuple #[.agg #[.slice aS nS cS], .bool true]) ∧ Below w_3.heap.size w_3 w_x := by
      rcases h with ⟨g, c, rfl, _, _, _, hb⟩ | ⟨_, a, c, rfl, hb⟩
      · exact ⟨_, _, _, rfl, hb⟩
      · exact ⟨_, _, _, rfl, hb⟩
    subst he
    clear h
    have RLz := Lib.hid (RL.out.below hb RL.out.1)
    have RFz := Lib.hid (RF.out.below hb RF.out.1)
    have VFz := Lib.hid (boxed_below VF.out hb (Boxed.lt VF.out))
    clear RL
    have RL := RLz
    clear RLz
    clear RF
    have RF := RFz
    clear RFz
    clear VF
    have VF := VFz
    clear VFz
    clear hcVF
    have hcVF := Boxed.cell VF.out
    have BN := Lib.hid (B0.out.trans (hb.mono B0.out.size))
    clear B0
    have B0 := BN
    clear BN
    clear hb HSB
    obtain ⟨w_5, hWN, hxN, hzN, hb⟩ := box1 w_x 53 (.slice aS nS cS)
    have RLz := Lib.hid (RL.out.below hb RL.out.1)
    have RFz := Lib.hid (RF.out.below hb RF.out.1)
    have VFz := Lib.hid (boxed_below VF.out hb (Boxed.lt VF.out))
    clear RL
    have RL := RLz
    clear RLz
    clear RF
    have RF := RFz
    clear RFz
    clear VF
    have VF := VFz
    clear VFz
    clear hcVF
    have hcVF := Boxed.cell VF.out
    have BN := Lib.hid (B0.out.trans (hb.mono B0.out.size))
    clear B0
    have B0 := BN
    clear BN
    have VS := Lib.hid hxN
    have hcVS := Boxed.cell VS.out
    have hWrVS := hWN.symm
    clear hWN hxN hzN hb
    have HV : Hid (∀ W2 (M : List Int) g c, OkM M → M.length = li.length → li.length ≤ c → CellRow W2 g (ints (bs M)) → Calls Try.prog 44 #[.agg #[.slice (some ⟨g, 0, none⟩) li.length c]] W2 fun e w' => ∃ g2 c2, e = .returned (.tuple #[.slice (some ⟨g2, 0, none⟩) li.length c2, .bool true]) ∧ li.length ≤ c2 ∧ W2.heap.size ≤ g2 ∧ CellRow w' g2 (ints M) ∧ Below W2.heap.size W2 w') := Lib.hid (fun W2 M g c hM hMl hc hr => by
      have hbm : (bs M).length = li.length := by rw [bs_len, hMl]
      have h := implFv_any g 0 c (bs M) W2 (hr.flat (by rw [hbm]; exact hc)) (by rw [hbm]; exact hnl) hM.bsW
      rw [hbm, valF_yes (okF_bs hM), vl_bs hM] at h
      refine h.mono ?_
      rintro e w' ⟨g2, c2, rfl, h1, h2, h3, h4⟩
      exact ⟨g2, c2, by rw [hMl], by rw [hMl] at h1; exact h1, h2, h3, h4⟩)
    have HVL : Hid (∀ W2, CellRow W2 gF (ints (bs li)) → Calls Try.prog 46 #[.agg #[.slice (some ⟨gF, 0, none⟩) li.length cF]] W2 fun e w' => e = .returned (.bool true) ∧ Below W2.heap.size W2 w') := Lib.hid (fun W2 hr => by
      have h := implIv_any gF 0 cF (bs li) W2 (hr.flat (by rw [hbl]; exact hcF)) (by rw [hbl]; exact hnl) hok.bsW
      rwa [hbl, decide_eq_true (okF_bs hok)] at h)
    have HPR : Hid (∀ (n : Nat) W2, n ≤ li.length → CellRow W2 gF (ints (bs li)) → Calls Try.prog 47 #[.agg #[.slice (some ⟨gF, 0, none⟩) li.length cF], .int .i64 (n : Int)] W2 fun e w' => e = .returned (.tuple #[.int .i64 (pre li n), .int .i64 ((cw n : Nat) : Int), .bool true]) ∧ Below W2.heap.size W2 w') := Lib.hid (fun n W2 hnn hr => by
      have h := implFp_any gF 0 cF (bs li) (n : Int) W2 (hr.flat (by rw [hbl]; exact hcF)) (by rw [hbl]; exact hnl) hok.bsW
      rw [hbl, preF_yes (okF_bs hok) (by omega) (by rw [hbl]; omega), vl_bs hok, Int.toNat_natCast] at h
      exact h)
    have HAD : Hid (∀ (i : Nat) (b : Int) W2, i < li.length → 0 ≤ li.getD i 0 + b → li.getD i 0 + b ≤ 1000 → CellRow W2 gF (ints (bs li)) → Calls Try.prog 49 #[.agg #[.slice (some ⟨gF, 0, none⟩) li.length cF], .int .i64 (i : Int), .int .i64 b] W2 fun e w' => ∃ g2 c2, e = .returned (.tuple #[.agg #[.slice (some ⟨g2, 0, none⟩) li.length c2], .int .i64 ((nds li.length i : Nat) : Int), .bool true]) ∧ li.length ≤ c2 ∧ W2.heap.size ≤ g2 ∧ CellRow w' g2 (ints (bs (li.set i (li.getD i 0 + b)))) ∧ Below W2.heap.size W2 w') := Lib.hid (fun i b W2 hil h0 h1 hr => by
      have hy := hok.at i
      have h := implFa_any gF 0 cF (bs li) (i : Int) b W2 (hr.flat (by rw [hbl]; exact hcF)) (by rw [hbl]; exact hnl) hok.bsW (by omega)
      rw [hbl, addF_yes (okF_bs hok) (by rw [hbl]; omega) (by rw [vl_bs hok, Int.toNat_natCast]; omega), vl_bs hok, Int.toNat_natCast, hbl] at h
      have hl2 : (bs (li.set i (li.getD i 0 + b))).length = li.length := by rw [bs_len, List.length_set]
      refine h.mono ?_
      intro e w' hh
      obtain ⟨g2, c2, rfl, h1, h2, h3, h4⟩ := hh.own (fun he => by have h9 : (bs (li.set i (li.getD i 0 + b))).length = 0 := congrArg List.length he; omega)
      simp only [hl2] at h1 ⊢
      exact ⟨g2, c2, rfl, h1, h2, h3, h4⟩)
    have HPS : Hid (∀ n, n < li.length → pre li (n + 1) = pre li n + li.getD n 0 ∧ 0 ≤ pre li n ∧ pre li n ≤ 64000 ∧ 0 ≤ li.getD n 0 ∧ li.getD n 0 ≤ 1000) := Lib.hid (fun n hn => by
      have h1 := hok.at n
      have h2 := hok.pre_le (t := n) (by omega)
      exact ⟨pre_succ hn, h2.1, by omega, h1.1, h1.2⟩)
    have HCW : Hid (∀ n, n ≤ li.length → cw n ≤ 7) := Lib.hid (fun n hn => cw_small (by omega))
    clear hok hlx
    go_wp2_with fail
    refine (HV.out w_5 li gF cF HOK.out rfl hcF RF.out).mono ?_
    rintro e w_6 ⟨gB, cB, rfl, hcB, _, hrow, hb⟩
    have RB := Lib.hid hrow
    have RLz := Lib.hid (RL.out.below hb RL.out.1)
    have RFz := Lib.hid (RF.out.below hb RF.out.1)
    have VFz := Lib.hid (boxed_below VF.out hb (Boxed.lt VF.out))
    have VSz := Lib.hid (boxed_below VS.out hb (Boxed.lt VS.out))
    clear RL
    have RL := RLz
    clear RLz
    clear RF
    have RF := RFz
    clear RFz
    clear VF
    have VF := VFz
    clear VFz
    clear hcVF
    have hcVF := Boxed.cell VF.out
    clear VS
    have VS := VSz
    clear VSz
    clear hcVS
    have hcVS := Boxed.cell VS.out
    have BN := Lib.hid (B0.out.trans (hb.mono B0.out.size))
    clear B0
    have B0 := BN
    clear BN
    clear hrow hb
    go_wp2_with fail
    refine (vInts_yes _ _ li w_6 (RB.out.flat hcB) (RL.out.flat hcL) hnl).mono ?_
    rintro e w_7 ⟨rfl, hb⟩
    have RLz := Lib.hid (RL.out.below hb RL.out.1)
    have RFz := Lib.hid (RF.out.below hb RF.out.1)
    have VFz := Lib.hid (boxed_below VF.out hb (Boxed.lt VF.out))
    have VSz := Lib.hid (boxed_below VS.out hb (Boxed.lt VS.out))
    have RBz := Lib.hid (RB.out.below hb RB.out.1)
    clear RL
    have RL := RLz
    clear RLz
    clear RF
    have RF := RFz
    clear RFz
    clear VF
    have VF := VFz
    clear VFz
    clear hcVF
    have hcVF := Boxed.cell VF.out
    clear VS
    have VS := VSz
    clear VSz
    clear hcVS
    have hcVS := Boxed.cell VS.out
    clear RB
    have RB := RBz
    clear RBz
    have BN := Lib.hid (B0.out.trans (hb.mono B0.out.size))
    clear B0
    have B0 := BN
    clear BN
    clear hb
    go_wp2_with fail
    refine (HVL.out w_7 RF.out).mono ?_
    rintro e w_8 ⟨rfl, hb⟩
    have RLz := Lib.hid (RL.out.below hb RL.out.1)
    have RFz := Lib.hid (RF.out.below hb RF.out.1)
    have VFz := Lib.hid (boxed_below VF.out hb (Boxed.lt VF.out))
    have VSz := Lib.hid (boxed_below VS.out hb (Boxed.lt VS.out))
    have RBz := Lib.hid (RB.out.below hb RB.out.1)
    clear RL
    have RL := RLz
    clear RLz
    clear RF
    have RF := RFz
    clear RFz
    clear VF
    have VF := VFz
    clear VFz
    clear hcVF
    have hcVF := Boxed.cell VF.out
    clear VS
    have VS := VSz
    clear VSz
    clear hcVS
    have hcVS := Boxed.cell VS.out
    clear RB
    have RB := RBz
    clear RBz
    have BN := Lib.hid (B0.out.trans (hb.mono B0.out.size))
    clear B0
    have B0 := BN
    clear BN
    clear hb HVL RB
    go_wp2_with fail
    obtain ⟨wl, hwl⟩ : ∃ x, x = w_8 := ⟨_, rfl⟩
    have HWL : Hid (w_8 = wl) := Lib.hid hwl.symm
    clear hwl
    go_loopw [10, 11] (fun sv nv wr => ∃ n : Nat, n ≤ li.length + 1 ∧ nv = .int .i64 (n : Int) ∧ (n ≤ li.length → sv = .int .i64 (pre li n)) ∧ (∃ s : Int, sv = .int .i64 s) ∧ Below w_8.heap.size w_8 wr) (fun _ nv _ => li.length + 1 - (intOf nv).toNat)
    case atStart => exact ⟨0, Nat.zero_le _, rfl, fun _ => by rw [pre_zero], ⟨0, rfl⟩, Below.refl _ _⟩
    case round =>
      obtain ⟨n, hn1, rfl, hsv, ⟨s, rfl⟩, hb⟩ := hrel
      have RLz := Lib.hid (RL.out.below hb RL.out.1)
      have RFz := Lib.hid (RF.out.below hb RF.out.1)
      have VFz := Lib.hid (boxed_below VF.out hb (Boxed.lt VF.out))
      have VSz := Lib.hid (boxed_below VS.out hb (Boxed.lt VS.out))
      clear RL
      have RL := RLz
      clear RLz
      clear RF
      have RF := RFz
      clear RFz
      clear VF
      have VF := VFz
      clear VFz
      clear hcVF
      have hcVF := Boxed.cell VF.out
      clear VS
      have VS := VSz
      clear VSz
      clear hcVS
      have hcVS := Boxed.cell VS.out
      have HBL := Lib.hid hb
      clear hb
      by_cases hle : n ≤ li.length
      case pos =>
        have hs : s = pre li n := by have := hsv hle; injection this
        clear hsv
        have hlez : (n : Int) ≤ (li.length : Int) := by omega
        have hcw := HCW.out n hle
        have HP := Lib.hid (HPR.out n wr hle RF.out)
        rw [← hs] at HP
        generalize cw n = u at *
        have hu0 : ¬ (u : Int) < 0 := by omega
        have hu7 : ¬ (7 : Int) < (u : Int) := by omega
        have hd0 : decide ((u : Int) < 0) = false := decide_eq_false hu0
        have hd7 : decide ((7 : Int) < (u : Int)) = false := decide_eq_false hu7
        by_cases hlt : n < li.length
        case pos =>
          have hltz : (n : Int) < (li.length : Int) := by omega
          obtain ⟨hp1, hp2, hp3, hp4, hp5⟩ := HPS.out n hlt
          rw [← hs] at hp1 hp2 hp3
          have HS1 := Lib.hid hp1
          have HAT : Hid (∀ w2, Below wr.heap.size wr w2 → w2.cell? ⟨gL, n, none⟩ = some (.int .i64 (li.getD n 0))) := Lib.hid (fun w2 hb => ((RL.out.below hb RL.out.1).2 _ _ (ints_getD hlt)).1)
          generalize li.getD n 0 = y at *
          have hwy : IntKind.i64.wrap (s + y) = s + y := by rw [IntKind.wrap_i64]; omega
          clear hs hp1
          go_wp2_with fail
          refine HP.out.mono ?_
          rintro e w2 ⟨rfl, hb⟩
          have hat := HAT.out w2 hb
          have HBL2 := Lib.hid (HBL.out.trans (hb.mono HBL.out.size))
          clear hb
          go_wp2_with fail
          go_roundw
          case rel => exact ⟨n + 1, by omega, by go_num, fun _ => by rw [HS1.out], ⟨_, rfl⟩, HBL2.out⟩
          case measure => simp [intOf]; omega
        have hltz : ¬ (n : Int) < (li.length : Int) := by omega
        clear hs
        go_wp2_with fail
        refine HP.out.mono ?_
        rintro e w2 ⟨rfl, hb⟩
        have HBL2 := Lib.hid (HBL.out.trans (hb.mono HBL.out.size))
        clear hb
        go_wp2_with fail
        go_roundw
        case rel => exact ⟨n + 1, by omega, by go_num, fun h => absurd h (by omega), ⟨_, rfl⟩, HBL2.out⟩
        case measure => simp [intOf]; omega
      clear hsv
      have hlez : ¬ (n : Int) ≤ (li.length : Int) := by omega
      have B0z := Lib.hid (B0.out.trans (HBL.out.mono B0.out.size))
      clear B0
      have B0 := B0z
      clear B0z HBL HPR HCW
      by_cases h0 : li.length = 0
      case pos =>
        have h0z : (li.length : Int) = 0 := by omega
        have h0b : ((li.length : Int) == 0) = true := by rw [beq_iff_eq]; exact h0z
        go_wp2_with fail
        go_ret
        exact ⟨rfl, B0.out⟩
      have h0z : ¬ (li.length : Int) = 0 := by omega
      have h0b : ((li.length : Int) == 0) = false := by rw [beq_eq_false_iff_ne]; exact h0z
      have hl0 : 0 < li.length := by omega
      have HCODE := Lib.hid (HCODE0.out.below B0.out)
      go_wp2_with fail
      refine (vAt_any a len cap 4 _ HCODE.out (by omega) (by have := HLEN.out; omega)).mono ?_
      rintro e w_9 ⟨⟨rz, hr0, hr1, rfl⟩, rfl⟩
      obtain ⟨r, rfl⟩ : ∃ n : Nat, rz = n := ⟨rz.toNat, by omega⟩
      obtain ⟨i, hi⟩ : ∃ n, n = r % li.length := ⟨_, rfl⟩
      have hil : i < li.length := by rw [hi]; exact Nat.mod_lt _ hl0
      have hke : (r : Int) % (li.length : Int) = (i : Int) := by rw [hi]; exact (Int.natCast_emod r li.length).symm
      have hkt : Int.tmod (r : Int) (li.length : Int) = (i : Int) := by rw [Int.tmod_eq_emod_of_nonneg (by omega)]; exact hke
      have hkw : IntKind.i64.wrap (i : Int) = (i : Int) := by rw [IntKind.wrap_i64]; omega
      have hilz : (i : Int) < (li.length : Int) := by omega
      have hy := HPS.out i hil
      obtain ⟨y, hyy⟩ : ∃ y, y = li.getD i 0 := ⟨_, rfl⟩
      rw [← hyy] at hy
      obtain ⟨_, _, _, hy0, hy1⟩ := hy
      have HAD1 := Lib.hid (fun b W2 => HAD.out i b W2 hil)
      rw [← hyy] at HAD1
      obtain ⟨hn1, hn2⟩ := nds_dec li.length (by omega) i hil
      generalize nds li.length i = N at *
      have hat : w_9.cell? ⟨gL, i, none⟩ = some (.int .i64 y) := by rw [hyy]; exact (RL.out.2 _ _ (ints_getD hil)).1
      have hwy : IntKind.i64.wrap (1000 - y) = 1000 - y := by rw [IntKind.wrap_i64]; omega
      have HYY := Lib.hid hyy
      clear HAD hi hyy
      go_upto_region 23 with fail
      go_cut [16] from 117 to 124 (fun u wx => ∃ v : Int, 0 ≤ v ∧ v ≤ 255 ∧ u = .int .i64 (1000 - y - v) ∧ ∃ k : Nat, wx = w_9.drewN k)
      case first =>
        go_region_with (go_at_call 48; refine (vAt_any a len cap 5 _ (HCODE.out.below (below_drewN _ _ _)) (by omega) (by have := HLEN.out; omega)).mono ?_; rintro e w13 ⟨⟨v, hv0, hv1, rfl⟩, rfl⟩)
        all_goals (
          have hwv : IntKind.i64.wrap (1000 - y - v) = 1000 - y - v := by rw [IntKind.wrap_i64]; omega
          go_wp2_with fail
          go_meet
          exact ⟨v, hv0, hv1, by first | rfl | rw [hwv], _, rfl⟩)
      case rest =>
        obtain ⟨v, hv0, hv1, rfl, nk, rfl⟩ := hcut
        obtain ⟨w_c, hwc⟩ : ∃ x, x = w_9.drewN nk := ⟨_, rfl⟩
        have hb : Below w_9.heap.size w_9 w_c := by rw [hwc]; exact ⟨rfl, rfl, rfl, Nat.le_refl _, fun _ _ => rfl⟩
        rw [← hwc]
        clear hwc hat
        have RLz := Lib.hid (RL.out.below hb RL.out.1)
        have RFz := Lib.hid (RF.out.below hb RF.out.1)
        have VFz := Lib.hid (boxed_below VF.out hb (Boxed.lt VF.out))
        have VSz := Lib.hid (boxed_below VS.out hb (Boxed.lt VS.out))
        clear RL
        have RL := RLz
        clear RLz
        clear RF
        have RF := RFz
        clear RFz
        clear VF
        have VF := VFz
        clear VFz
        clear hcVF
        have hcVF := Boxed.cell VF.out
        clear VS
        have VS := VSz
        clear VSz
        clear hcVS
        have hcVS := Boxed.cell VS.out
        have BN := Lib.hid (B0.out.trans (hb.mono B0.out.size))
        clear B0
        have B0 := BN
        clear BN
        clear hb
        have hat : w_c.cell? ⟨gL, i, none⟩ = some (.int .i64 y) := by rw [HYY.out]; exact (RL.out.2 _ _ (ints_getD hil)).1
        obtain ⟨b, hbb⟩ : ∃ b, b = 1000 - y - v := ⟨_, rfl⟩
        rw [← hbb]
        have hwb : IntKind.i64.wrap (y + b) = y + b := by rw [IntKind.wrap_i64]; omega
        have hnb : ¬ y + b < 0 := by omega
        have HYB : Hid (0 ≤ y + b ∧ y + b ≤ 1000) := Lib.hid (by omega)
        clear hbb
        go_wp2_with fail
        refine (HAD1.out b w_c HYB.out.1 HYB.out.2 RF.out).mono ?_
        rintro e w_10 ⟨gG, cG, rfl, hcG, hgG, hrow, hb⟩
        have RG := Lib.hid hrow
        have RLz := Lib.hid (RL.out.below hb RL.out.1)
        have RFz := Lib.hid (RF.out.below hb RF.out.1)
        have VFz := Lib.hid (boxed_below VF.out hb (Boxed.lt VF.out))
        have VSz := Lib.hid (boxed_below VS.out hb (Boxed.lt VS.out))
        clear RL
        have RL := RLz
        clear RLz
        clear RF
        have RF := RFz
        clear RFz
        clear VF
        have VF := VFz
        clear VFz
        clear hcVF
        have hcVF := Boxed.cell VF.out
        clear VS
        have VS := VSz
        clear VSz
        clear hcVS
        have hcVS := Boxed.cell VS.out
        have BN := Lib.hid (B0.out.trans (hb.mono B0.out.size))
        clear B0
        have B0 := BN
        clear BN
        clear hrow hb hgG HAD1 hat
        obtain ⟨w_11, hWN, hxN, hzN, hb⟩ := box1 w_10 53 (.slice (some ⟨gG, 0, none⟩) li.length cG)
        have RLz := Lib.hid (RL.out.below hb RL.out.1)
        have RFz := Lib.hid (RF.out.below hb RF.out.1)
        have VFz := Lib.hid (boxed_below VF.out hb (Boxed.lt VF.out))
        have VSz := Lib.hid (boxed_below VS.out hb (Boxed.lt VS.out))
        have RGz := Lib.hid (RG.out.below hb RG.out.1)
        clear RL
        have RL := RLz
        clear RLz
        clear RF
        have RF := RFz
        clear RFz
        clear VF
        have VF := VFz
        clear VFz
        clear hcVF
        have hcVF := Boxed.cell VF.out
        clear VS
        have VS := VSz
        clear VSz
        clear hcVS
        have hcVS := Boxed.cell VS.out
        clear RG
        have RG := RGz
        clear RGz
        have BN := Lib.hid (B0.out.trans (hb.mono B0.out.size))
        clear B0
        have B0 := BN
        clear BN
        have VG := Lib.hid hxN
        have hcVG := Boxed.cell VG.out
        have hWrVG := hWN.symm
        clear hWN hxN hzN hb
        obtain ⟨M, hM⟩ : ∃ M, M = li.set i (y + b) := ⟨_, rfl⟩
        have HMO : Hid (OkM M) := Lib.hid (by rw [hM]; exact OkM.set HOK.out i HYB.out)
        have HML : Hid (M.length = li.length) := Lib.hid (by rw [hM, List.length_set])
        have HMA : Hid (∀ j, j < li.length → M.getD j 0 = if i = j then y + b else li.getD j 0) := Lib.hid (fun j hj => by rw [hM, getD_set _ _ _ _ hil])
        rw [← hM] at RG
        clear hM
        go_wp2_with fail
        refine (HV.out w_11 M gG cG HMO.out HML.out hcG RG.out).mono ?_
        rintro e w_12 ⟨gB, cB, rfl, hcB, _, hrow, hb⟩
        have RB := Lib.hid hrow
        have RLz := Lib.hid (RL.out.below hb RL.out.1)
        have RFz := Lib.hid (RF.out.below hb RF.out.1)
        have VFz := Lib.hid (boxed_below VF.out hb (Boxed.lt VF.out))
        have VSz := Lib.hid (boxed_below VS.out hb (Boxed.lt VS.out))
        have RGz := Lib.hid (RG.out.below hb RG.out.1)
        have VGz := Lib.hid (boxed_below VG.out hb (Boxed.lt VG.out))
        clear RL
        have RL := RLz
        clear RLz
        clear RF
        have RF := RFz
        clear RFz
        clear VF
        have VF := VFz
        clear VFz
        clear hcVF
        have hcVF := Boxed.cell VF.out
        clear VS
        have VS := VSz
        clear VSz
        clear hcVS
        have hcVS := Boxed.cell VS.out
        clear RG
        have RG := RGz
        clear RGz
        clear VG
        have VG := VGz
        clear VGz
        clear hcVG
        have hcVG := Boxed.cell VG.out
        have BN := Lib.hid (B0.out.trans (hb.mono B0.out.size))
        clear B0
        have B0 := BN
        clear BN
        clear hrow hb HV
        have hN1 : ¬ (N : Int) < 1 := by omega
        have hN7 : ¬ (7 : Int) < (N : Int) := by omega
        have hdN1 : decide ((N : Int) < 1) = false := decide_eq_false hN1
        have hdN7 : decide ((7 : Int) < (N : Int)) = false := decide_eq_false hN7
        have hlenb : ((li.length : Int) != (li.length : Int)) = false := by simp
        go_wp2_with fail
        go_loopw [22] (fun nv wx => ∃ (j q : Nat), j ≤ li.length ∧ nv = .int .i64 (j : Int) ∧ wx = w_12.drewN q) (fun nv _ => li.length - (intOf nv).toNat)
        case atStart => exact ⟨0, 0, Nat.zero_le _, rfl, rfl⟩
        case round =>
          obtain ⟨j, nq, hj, rfl, rfl⟩ := hrel
          by_cases hlt : j < li.length
          · have hltz : (j : Int) < (li.length : Int) := by omega
            have ha1 : w_12.cell? ⟨gL, j, none⟩ = some (.int .i64 (li.getD j 0)) := (RL.out.2 _ _ (ints_getD hlt)).1
            have ha2 : w_12.cell? ⟨gB, j, none⟩ = some (.int .i64 (M.getD j 0)) := (RB.out.2 _ _ (ints_getD (l := M) (by rw [HML.out]; exact hlt))).1
            rw [HMA.out j hlt] at ha2
            by_cases hij : i = j
            · subst hij
              rw [if_pos rfl] at ha2
              rw [← HYY.out] at ha1
              have hb1 : ((i : Int) == (i : Int)) = true := by simp
              have hb2 : ((i : Int) != (i : Int)) = false := by simp
              have hb3 : (y + b != y + b) = false := by simp
              go_wp2_with fail
              go_quiet (fail)
              go_wp2_with fail
              go_roundw
              case rel => exact ⟨i + 1, _, by omega, by go_num, rfl⟩
              case measure => simp [intOf]; omega
            · rw [if_neg hij] at ha2
              have hijz : ¬ (j : Int) = (i : Int) := by omega
              have hb1 : ((j : Int) == (i : Int)) = false := by rw [beq_eq_false_iff_ne]; exact hijz
              have hb2 : ((j : Int) != (i : Int)) = true := by simp; omega
              generalize li.getD j 0 = z at *
              have hb3 : (z != z) = false := by simp
              go_wp2_with fail
              go_quiet (fail)
              go_wp2_with fail
              go_roundw
              case rel => exact ⟨j + 1, _, by omega, by go_num, rfl⟩
              case measure => simp [intOf]; omega
          · have hltz : ¬ (j : Int) < (li.length : Int) := by omega
            go_wp2_with fail
            go_ret
            exact ⟨rfl, B0.out.trans ⟨rfl, rfl, rfl, Nat.le_refl _, fun _ _ => rfl⟩⟩

set_option maxRecDepth 100000 in
theorem lifted (os : Os) (started : os.Started) (H : Type) (enc : TypeId × Value → H) :
    ReturnsInHanded {} Try.checked os 8 .any (Rows.fnFenwickSpec.pre6 enc Try.prog Try.f8 Rows.fnFenwickRow.domain false) (Rows.fnFenwickSpec.post enc Try.prog Try.f8 false true false false) := by
  refine returnsInHanded_of_change (C := Try.checked) own started (by kernel_rfl) Try.func8
    (ChangeSpec.witness6 (enc := enc) (C := Try.checked) false ⟨#[], #[.slice none 0 0], []⟩ 8 (by kernel_rfl) (by kernel_rfl) (by kernel_rfl) (by kernel_rfl)) ?_
  intro W base args ds gs before hval0 hW hcnd _
  have hval : ∀ (j : Nat) t v, Try.f8.params[j]? = some t → args[j]? = some v → Value.okWide Try.prog W .any base t v := hval0
  have hW' := hW
  obtain ⟨p, q, hA0, hV, rfl, hfz, hnd⟩ := hW
  have hA : DataW.TrodAll enc Try.prog W 0 (fun _ => true) true Try.f8.params.toList args.toList ds p := hA0
  rw [Try.params8] at hA hval
  obtain ⟨v0, vs0, d0, ds0, p0, q0, hargs, rfl, rfl, h0, r0⟩ := trodAll_cons hA
  obtain ⟨rfl, rfl, rfl⟩ := trodAll_nil r0
  obtain rfl : args = #[v0] := by cases args; simp_all
  obtain ⟨rfl, rfl⟩ := trodVars_none hV
  obtain ⟨a0, len0, cap0, rfl⟩ := okWide_slice Try.underlying30 (hval 0 30 v0 rfl rfl)
  have k0 := h0
  have lt0 : ∀ x ∈ p0, x.block < W.heap.size := by obtain ⟨m, hm⟩ := k0; exact DataW.trod_lt m _ _ _ hm
  obtain ⟨z0, w0⟩ : ∃ zs, IsRow .u8 W a0 len0 cap0 zs := by
    obtain ⟨fuel, hf⟩ := h0
    rcases open_ints Try.underlying30 Try.underlying5 (by kernel_rfl) hf with ⟨hcs, _⟩ | ⟨x, l, c, zs, hcs, _, hl, hm, hz, _, hcell, hwz⟩
    · simp [Value.cells] at hcs
      obtain ⟨rfl, rfl, rfl⟩ := hcs
      exact ⟨[], .inl ⟨rfl, rfl, rfl, rfl⟩⟩
    · simp [Value.cells] at hcs
      obtain ⟨rfl, rfl, rfl⟩ := hcs
      exact ⟨zs, .inr ⟨_, rfl, hl, hm, by simpa using hz, hcell, hwz⟩⟩
  clear hA0 hval0
  refine (walk a0 len0 cap0 z0 W w0).mono fun e W' ⟨he, bel⟩ => ?_
  subst he
  exact ⟨_, rfl, _, _, _, [], _, [], hW', trodAll_mk1 (shut_bool Try.underlying4 _), (trodAll_cons_mk (Below.trod laidOut (by kernel_rfl) (of_decide_eq_true (by kernel_rfl)) k0 bel lt0) trodAll_mk0), rfl, bel.frame _, fun h => by cases h⟩

theorem closed : joinedFacts Try.prog 8 Try.f8 Rows.fnFenwickSpec Rows.fnFenwickRow = true := by
  unfold joinedFacts
  rw [head_enter, head_final, head_make]
  kernel_rfl

theorem over : Rows.fnFenwickRow.holds Try.pinned (OpenSpec.ofChange Rows.fnFenwickSpec) :=
  OpenClaim.holds_of_wide 8 Try.f8 rfl rfl rfl rfl rfl rfl rfl ⟨rfl, rfl, rfl, rfl, rfl⟩ rfl rfl rfl rfl rfl (by kernel_rfl) Try.func8 closed
    (of_decide_eq_true (by kernel_rfl)) (by unfold Func.isWrapper; first | (rw [if_pos (by decide +kernel)]; kernel_rfl) | (rw [if_neg (by decide +kernel)]; exact ⟨rfl, rfl⟩))
    (fun os started H enc _ => lifted os started H enc)

theorem proved : Rows.FnFenwickSaid := over
#print axioms proved
end Go.Proofs.Ytgfdpjmhdijdiaa.fnFenwick
