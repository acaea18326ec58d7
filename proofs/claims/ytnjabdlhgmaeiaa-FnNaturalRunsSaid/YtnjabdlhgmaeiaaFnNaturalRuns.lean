/- FnNaturalRuns returns true at every input. No condition. -/
import Derived.Test.YtnjabdlhgmaeiaaRows
import Derived.WalkKit
import Derived.ProofKit
import Derived.OpenShut
import Derived.ShutString
import Derived.ChangeOld
import Derived.Below
import Derived.SliceStrings
import Derived.Test.YtnjabdlhgmaeiaaINr
import Derived.Test.YtnjabdlhgmaeiaaSRun
import Derived.Test.YtnjabdlhgmaeiaaNrLaw
import Derived.Test.YtnjabdlhgmaeiaaDrawNr
import Derived.Test.YtnjabdlhgmaeiaaCode
namespace Go.Proofs.Ytnjabdlhgmaeiaa.fnNaturalRuns
open Go.ChangeShapes Go.WideShapes Go.ChangeAt Go.RowKit
open Go.ChangeMaps (open_string shut_string)
set_option linter.unusedVariables false

theorem own : ownKnob Try.prog.godebug = none := by kernel_rfl
theorem laidOut : laidOutB Try.prog = true := by kernel_rfl

def IsRow (k : IntKind) (w : World) (a : Option Addr) (len cap : Nat) (zs : List Int) : Prop :=
  (a = none ∧ len = 0 ∧ cap = 0 ∧ zs = []) ∨
  ∃ x, a = some x ∧ len ≤ cap ∧ cap ≤ maxLen ∧ zs.length = cap ∧ (∀ i, i < zs.length → w.cell? (x.add i) = some (.int k (zs.getD i 0))) ∧ ∀ n ∈ zs, (Lit.int k n).wf = true

theorem code_of {w : World} {a : Option Addr} {len cap : Nat} {zs : List Int} (h : IsRow .u8 w a len cap zs) : Code0 w a len := by
  intro k hk
  rcases h with ⟨_, rfl, _⟩ | ⟨x, rfl, hlc, _, hz, hc, hw⟩
  · omega
  · have hkz : k < zs.length := by omega
    have hd : zs.getD k 0 = zs[k] := by simp [List.getD, hkz]
    have hm := hw zs[k] (List.getElem_mem hkz)
    have hcell := hc k hkz
    rw [hd] at hcell
    have hlt := World.block_lt_of_cell? w _ hcell
    have hbk := Go.ChangeShapes.block_add x k
    have hr := bounds_u8 hm
    exact ⟨x, zs[k], rfl, by omega, hcell, hr.1, hr.2⟩

theorem vbig_no (a : Option Addr) (len cap : Nat) (w : World) (h : len ≤ 65536) : Calls Try.prog 16 #[.slice a len cap] w fun e w' => e = .returned (.bool false) ∧ w' = w := by
  go_enter Try.func16, Try.ntmps16
  have hq : decide ((65536 : Int) < (len : Int)) = false := decide_eq_false (by omega)
  go_wp2
  go_ret
  exact ⟨by rw [← hq]; rfl, rfl⟩

set_option maxRecDepth 100000 in
set_option maxHeartbeats 40000000 in
theorem walk (a : Option Addr) (len cap : Nat) (z : List Int) (w : World) (w0 : IsRow .u8 w a len cap z) :
    Calls Try.prog 6 #[.slice a len cap] w fun e w' => e = .returned (.bool true) ∧ Below w.heap.size w w' := by
  have hlen : len ≤ maxLen := by
    rcases w0 with ⟨_, rfl, _⟩ | ⟨x, _, h1, h2, _⟩ <;> omega
  unfold maxLen at hlen
  have HCODE := Lib.hid (code_of w0)
  clear w0
  by_cases hbig : 65536 < len
  · clear HCODE
    go_enter Try.func6, Try.ntmps6
    go_wp2
    go_ret
    exact ⟨rfl, Below.refl _ _⟩
  · go_enter Try.func6, Try.ntmps6
    go_wp2_with fail
    refine (vbig_no a len cap _ (by omega)).mono ?_
    rintro e w0 ⟨rfl, rfl⟩
    clear hlen hbig
    have B0 : Hid (Below w0.heap.size w0 w0) := Lib.hid (Below.refl _ _)
    go_wp2_with fail
    refine (drawNr_any a len cap _ HCODE.out).mono ?_
    rintro e w_1 ⟨gRL, cRL, li, hlRL, rfl, hcRL, hrow, hb⟩
    have RL := Lib.hid hrow
    have hnRL : li.length ≤ 1048576 := by omega
    have BN := Lib.hid (B0.out.trans (hb.mono B0.out.size))
    clear B0
    have B0 := BN
    clear BN
    clear hrow hb HCODE
    obtain ⟨U, okl, hU⟩ : ∃ x b, nrAll li = (x, b) := ⟨_, _, rfl⟩
    have HI := Lib.hid (fun b o c W (h : FlatAt W (.slice (some ⟨b, o, none⟩) li.length c) li.length (recs li)) => by have := implNr_any b o c li W h hnRL; rw [hU] at this; exact this)
    have HS := Lib.hid (fun b o c W (h : FlatAt W (.slice (some ⟨b, o, none⟩) li.length c) li.length (recs li)) => by have := specNr_any b o c li W h hnRL; rw [hU] at this; exact this)
    have hU1 : U.length ≤ 1048576 := by have := nrAll_len li; rw [hU] at this; exact this
    have HYES : Hid (okl = true → li.length ≤ 64 ∧ U = Ru.runsF li 0) := Lib.hid (fun hk => by
      by_cases h : OkR li
      · rw [nrAll_yes h] at hU; simp only [Prod.mk.injEq] at hU; exact ⟨h.1, hU.1.symm⟩
      · rw [nrAll_no h] at hU; simp only [Prod.mk.injEq] at hU; rw [← hU.2] at hk; cases hk)
    have HNO : Hid (okl = false → U = []) := Lib.hid (fun hk => by
      by_cases h : OkR li
      · rw [nrAll_yes h] at hU; simp only [Prod.mk.injEq] at hU; rw [← hU.2] at hk; cases hk
      · rw [nrAll_no h] at hU; simp only [Prod.mk.injEq] at hU; exact hU.1.symm)
    clear hU
    go_wp2_with fail
    refine (HI.out _ _ _ _ (RL.out.flat hcRL)).mono ?_
    rintro e w_2 ⟨gRQ, cRQ, rfl, hcRQ, hg, hrow, hb⟩
    simp only at hcRQ hrow
    have hyRQ := Lib.hid hrow
    have RLz := Lib.hid (RL.out.below hb RL.out.1)
    clear RL
    have RL := RLz
    clear RLz
    have BN := Lib.hid (B0.out.trans (hb.mono B0.out.size))
    clear B0
    have B0 := BN
    clear BN
    have RQ := hyRQ
    clear hyRQ hrow hb hg
    go_wp2_with fail
    refine (HS.out _ _ _ _ (RL.out.flat hcRL)).mono ?_
    rintro e w_3 ⟨gRW, cRW, rfl, hcRW, hg, hrow, hb⟩
    simp only at hcRW hrow
    have hyRW := Lib.hid hrow
    have RLz := Lib.hid (RL.out.below hb RL.out.1)
    clear RL
    have RL := RLz
    clear RLz
    have RQz := Lib.hid (RQ.out.below hb RQ.out.1)
    clear RQ
    have RQ := RQz
    clear RQz
    have BN := Lib.hid (B0.out.trans (hb.mono B0.out.size))
    clear B0
    have B0 := BN
    clear BN
    have RW := hyRW
    clear hyRW hrow hb hg
    clear HI HS
    cases okl
    case false =>
      obtain rfl := HNO.out (by first | rfl | trivial)
      clear HYES HNO RQ RW
      go_wp2_with fail
      go_loopw [8, 9, 10, 11, 12] (fun _ iv _ _ _ wr => iv = .int .i64 0 ∧ wr = w_3) (fun _ _ _ _ _ _ => 0)
      case atStart => exact ⟨rfl, rfl⟩
      case round =>
        obtain ⟨rfl, rfl⟩ := hrel
        go_wp2_with fail
        go_ret
        exact ⟨rfl, B0.out⟩
    obtain ⟨h64, hUr⟩ := HYES.out (by first | rfl | trivial)
    have HUR := Lib.hid hUr
    clear HYES HNO hUr
    go_wp2_with fail
    go_loopw [8, 9, 10, 11, 12] (fun av iv _ _ _ wr => ∃ (i a : Nat), i ≤ U.length ∧ av = .int .i64 (a : Int) ∧ iv = .int .i64 (i : Int) ∧ U.drop i = Ru.runsF li a ∧ a ≤ li.length ∧ Below w_3.heap.size w_3 wr) (fun _ iv _ _ _ _ => U.length - (intOf iv).toNat)
    case atStart => exact ⟨0, 0, Nat.zero_le _, rfl, rfl, by rw [HUR.out]; rfl, Nat.zero_le _, Below.refl _ _⟩
    case round =>
      obtain ⟨i, a, hiU, rfl, rfl, hdrop, hal0, hb⟩ := hrel
      have HB := Lib.hid hb
      have HDROP := Lib.hid hdrop
      clear hb hdrop
      by_cases hlt : i < U.length
      · have hal : a < li.length := by
          apply Classical.byContradiction
          intro hc
          have := HDROP.out
          rw [Ru.runsF_out hc] at this
          have := congrArg List.length this
          rw [List.length_drop] at this
          simp at this; omega
        obtain ⟨cn, hcn⟩ : ∃ cn, cn = Ru.rcnt li a := ⟨_, rfl⟩
        obtain ⟨a2, ha2⟩ : ∃ a2, a2 = a + cn := ⟨_, rfl⟩
        have hp := Ru.rcnt_pos hal
        rw [← hcn] at hp
        have hui : U[i]? = some ((a : Int), (cn : Int)) := by
          have h := HDROP.out
          rw [Ru.runsF_in hal, ← hcn] at h
          have h2 : (U.drop i)[0]? = some ((a : Int), (cn : Int)) := by rw [h]; rfl
          rw [List.getElem?_drop, Nat.add_zero] at h2; exact h2
        have HDROP2 : Hid (U.drop (i + 1) = Ru.runsF li a2) := Lib.hid (by
          have h := HDROP.out
          rw [Ru.runsF_in hal, ← hcn, ← ha2] at h
          rw [← List.drop_drop, h]; rfl)
        have hilz : (i : Int) < (U.length : Int) := by omega
        have hcn1 : decide ((cn : Int) < 1) = false := decide_eq_false (by omega)
        have ha2z : (a : Int) + (cn : Int) = (a2 : Int) := by omega
        have ha2l : a2 ≤ li.length := by omega
        have hcn64 : cn ≤ 64 := by omega
        have ha64 : a ≤ 64 := by omega
        have hi65 : i ≤ 1048576 := by omega
        have HCN := Lib.hid hcn
        have HA2 := Lib.hid ha2
        have HUI := Lib.hid hui
        have haa2 : a + 1 ≤ a2 := by omega
        obtain ⟨W1, hW1⟩ : ∃ W, W = wr.alloc (.cells #[.int .i64 (a : Int), .int .i64 (cn : Int)] 48) := ⟨_, rfl⟩
        have HQ : Hid (NrQ li U gRL cRL gRQ gRW wr.heap.size a cn W1) := Lib.hid (by rw [hW1]; exact NrQ.of (i := i) (RL.out.below HB.out RL.out.1) hcRL (RQ.out.below HB.out RQ.out.1) (RW.out.below HB.out RW.out.1))
        have HB1 : Hid (Below w_3.heap.size w_3 W1) := Lib.hid (by rw [hW1]; exact HB.out.alloc (by have := HB.out.size; exact this) _)
        obtain ⟨u0, u1⟩ := recs_at hui
        have eq0 := ((RQ.out.below HB.out RQ.out.1).2 _ _ u0).1
        have eq1 := ((RQ.out.below HB.out RQ.out.1).2 _ _ u1).1
        clear hcn hp hui ha2 u0 u1 HDROP HB
        have HB := HB1
        clear HB1
        obtain ⟨s, hs⟩ : ∃ s, s = wr.heap.size := ⟨_, rfl⟩
        rw [← hs] at HQ
        go_wp2_with fail
        rw [← hW1]
        try rw [← hs]
        clear hW1 eq0 eq1 hs
        obtain ⟨⟨f0, f1⟩, f2, f3⟩ := HQ.out.run HUI.out
        obtain ⟨q0, q1⟩ := HQ.out.c0
        go_quiet (fail)
        have HQ := Lib.hid (HQ.out.drewN nq)
        have HB := Lib.hid (HB.out.trans ((⟨rfl, rfl, rfl, Nat.le_refl _, fun _ _ => rfl⟩ : Below w_3.heap.size W1 (W1.drewN nq))))
        generalize W1.drewN nq = W1 at *
        clear f0 f1 f2 f3 q0 q1
        have q0 := HQ.out.c0.1
        have q1 := HQ.out.c0.2
        by_cases h2 : 2 ≤ cn
        · obtain ⟨a1, ha1⟩ : ∃ a1, a1 = a + 1 := ⟨_, rfl⟩
          have ha1z : (a : Int) + 1 = (a1 : Int) := by omega
          have ha1l : a1 < li.length := by omega
          have ha1lz : (a1 : Int) < (li.length : Int) := by omega
          have halz : (a : Int) < (li.length : Int) := by omega
          obtain ⟨x, hx⟩ : ∃ x, x = (li.getD a1 (0, 0)).1 := ⟨_, rfl⟩
          obtain ⟨y, hy⟩ : ∃ y, y = (li.getD a (0, 0)).1 := ⟨_, rfl⟩
          have hc1 := HQ.out.key ha1l
          have he1 := HQ.out.key hal
          rw [← hx] at hc1
          rw [← hy] at he1
          obtain ⟨d, hd⟩ : ∃ d, d = decide (x < y) := ⟨_, rfl⟩
          have HD : Hid (d = Ru.dn li (a + 1)) := Lib.hid (by rw [dn_decide, ← ha1, ← hx, ← hy, hd])
          have hd' : decide (x < y) = d := hd.symm
          have h2d : decide ((1 : Int) < (cn : Int)) = true := decide_eq_true (by omega)
          have h2z : (1 : Int) < (cn : Int) := by omega
          have HA1 := Lib.hid ha1
          clear hx hy hd ha1
          go_wp2_with fail
          go_quiet (fail)
          have HQ := Lib.hid (HQ.out.drewN nq)
          have HB := Lib.hid (HB.out.trans ((⟨rfl, rfl, rfl, Nat.le_refl _, fun _ _ => rfl⟩ : Below w_3.heap.size W1 (W1.drewN nq))))
          generalize W1.drewN nq = W1 at *
          clear q0 q1 hc1 he1
          have q0 := HQ.out.c0.1
          have q1 := HQ.out.c0.2
          go_wp2_with fail
          clear q0 q1
          go_loopw [12] (fun kv ws => ∃ k : Nat, kv = .int .i64 (k : Int) ∧ a + 1 ≤ k ∧ k ≤ a2 ∧ NrQ li U gRL cRL gRQ gRW s a cn ws ∧ Below w_3.heap.size w_3 ws) (fun kv _ => a2 - (intOf kv).toNat)
          case atStart => exact ⟨a + 1, by first | rfl | go_num | rw [HA1.out], Nat.le_refl _, by omega, HQ.out, HB.out⟩
          case round =>
            clear HQ HB
            obtain ⟨k, rfl, hk1, hk2, hq, hb⟩ := hrel
            have HQ := Lib.hid hq
            have HB := Lib.hid hb
            clear hq hb
            have hk64 : k ≤ 64 := by omega
            by_cases hkl : k < a2
            · have hkz : (k : Int) < (a2 : Int) := by omega
              obtain ⟨j, hj⟩ : ∃ j, k = j + 1 := ⟨k - 1, by omega⟩
              have hjz : (k : Int) - 1 = (j : Int) := by omega
              have hkll : k < li.length := by omega
              have hklz : (k : Int) < (li.length : Int) := by omega
              have hjl : j < li.length := by omega
              have hjlz : (j : Int) < (li.length : Int) := by omega
              obtain ⟨x3, hx3⟩ : ∃ x, x = (li.getD k (0, 0)).1 := ⟨_, rfl⟩
              obtain ⟨y3, hy3⟩ : ∃ y, y = (li.getD j (0, 0)).1 := ⟨_, rfl⟩
              have hc3 := HQ.out.key hkll
              have he3 := HQ.out.key hjl
              rw [← hx3] at hc3
              rw [← hy3] at he3
              have hdd : decide (x3 < y3) = d := by
                have := run_same hal (k := k) (by omega) (by rw [← HCN.out, ← HA2.out]; exact hkl)
                rw [hj, dn_decide, ← hj, ← hx3, ← hy3, ← HD.out] at this
                exact this
              clear hx3 hy3 hj
              go_wp2_with fail
              go_quiet (fail)
              have HQ := Lib.hid (HQ.out.drewN nq)
              have HB := Lib.hid (HB.out.trans ((⟨rfl, rfl, rfl, Nat.le_refl _, fun _ _ => rfl⟩ : Below w_3.heap.size wr (wr.drewN nq))))
              generalize wr.drewN nq = wr at *
              go_wp2_with fail
              go_roundw
              case rel => exact ⟨k + 1, by go_num, by omega, by omega, HQ.out, HB.out⟩
              case measure => simp [intOf]; omega
            · have hkz : ¬ (k : Int) < (a2 : Int) := by omega
              go_wp2_with fail
              have hq0 := HQ.out.c0.1
              have hq1 := HQ.out.c0.2
              by_cases ha2 : a2 < li.length
              · have hd2 : decide ((a2 : Int) < (li.length : Int)) = true := decide_eq_true (by omega)
                have ha2z : (a2 : Int) < (li.length : Int) := by omega
                obtain ⟨j2, hj2⟩ : ∃ j2, a2 = j2 + 1 := ⟨a2 - 1, by omega⟩
                have hj2z : (a2 : Int) - 1 = (j2 : Int) := by omega
                have hj2l : j2 < li.length := by omega
                have hj2lz : (j2 : Int) < (li.length : Int) := by omega
                obtain ⟨x2, hx2⟩ : ∃ x, x = (li.getD a2 (0, 0)).1 := ⟨_, rfl⟩
                obtain ⟨y2, hy2⟩ : ∃ y, y = (li.getD j2 (0, 0)).1 := ⟨_, rfl⟩
                have hc2 := HQ.out.key ha2
                have he2 := HQ.out.key hj2l
                rw [← hx2] at hc2
                rw [← hy2] at he2
                have hmx : decide (x2 < y2) ≠ d := by
                  have := run_max hal (by rw [← HCN.out]; exact h2) (by rw [← HCN.out, ← HA2.out]; exact ha2)
                  rw [← HCN.out, ← HA2.out, hj2, dn_decide, ← hj2, ← hx2, ← hy2, ← HD.out] at this
                  exact this
                obtain ⟨z2, hz2⟩ : ∃ z, z = decide (x2 < y2) := ⟨_, rfl⟩
                rw [← hz2] at hmx
                have hzd : (z2 == d) = false := by cases z2 <;> cases d <;> simp at hmx ⊢
                have HZ2 := Lib.hid hz2
                have hz2' : decide (x2 < y2) = z2 := hz2.symm
                clear hmx hx2 hy2 hj2 hz2
                go_wp2_with fail
                go_quiet (fail)
                have HQ := Lib.hid (HQ.out.drewN nq)
                have HB := Lib.hid (HB.out.trans ((⟨rfl, rfl, rfl, Nat.le_refl _, fun _ _ => rfl⟩ : Below w_3.heap.size wr (wr.drewN nq))))
                generalize wr.drewN nq = wr at *
                go_wp2_with fail
                go_roundw
                case rel => exact ⟨i + 1, a2, by omega, rfl, by go_num, HDROP2.out, ha2l, HB.out⟩
                case measure => simp [intOf]; omega
              · have hd2 : decide ((a2 : Int) < (li.length : Int)) = false := decide_eq_false (by omega)
                have ha2z : ¬ (a2 : Int) < (li.length : Int) := by omega
                go_wp2_with fail
                go_quiet (fail)
                have HQ := Lib.hid (HQ.out.drewN nq)
                have HB := Lib.hid (HB.out.trans ((⟨rfl, rfl, rfl, Nat.le_refl _, fun _ _ => rfl⟩ : Below w_3.heap.size wr (wr.drewN nq))))
                generalize wr.drewN nq = wr at *
                go_wp2_with fail
                go_roundw
                case rel => exact ⟨i + 1, a2, by omega, rfl, by go_num, HDROP2.out, ha2l, HB.out⟩
                case measure => simp [intOf]; omega
        · have hcn1' : cn = 1 := by omega
          have h2d : decide ((1 : Int) < (cn : Int)) = false := decide_eq_false (by omega)
          have h2z : ¬ (1 : Int) < (cn : Int) := by omega
          have ha1z : (a : Int) + 1 = (a2 : Int) := by omega
          have HA1 : Hid (a2 = a + 1) := Lib.hid (by have := HA2.out; omega)
          clear hcn1'
          go_wp2_with fail
          go_quiet (fail)
          have HQ := Lib.hid (HQ.out.drewN nq)
          have HB := Lib.hid (HB.out.trans ((⟨rfl, rfl, rfl, Nat.le_refl _, fun _ _ => rfl⟩ : Below w_3.heap.size W1 (W1.drewN nq))))
          generalize W1.drewN nq = W1 at *
          clear q0 q1
          have q0 := HQ.out.c0.1
          have q1 := HQ.out.c0.2
          go_wp2_with fail
          clear q0 q1
          go_loopw [12] (fun kv ws => ∃ k : Nat, kv = .int .i64 (k : Int) ∧ a + 1 ≤ k ∧ k ≤ a2 ∧ NrQ li U gRL cRL gRQ gRW s a cn ws ∧ Below w_3.heap.size w_3 ws) (fun kv _ => a2 - (intOf kv).toNat)
          case atStart => exact ⟨a + 1, by first | rfl | go_num | rw [HA1.out], Nat.le_refl _, by omega, HQ.out, HB.out⟩
          case round =>
            clear HQ HB
            obtain ⟨k, rfl, hk1, hk2, hq, hb⟩ := hrel
            have HQ := Lib.hid hq
            have HB := Lib.hid hb
            clear hq hb
            have hk64 : k ≤ 64 := by omega
            by_cases hkl : k < a2
            · omega
            · have hkz : ¬ (k : Int) < (a2 : Int) := by omega
              go_wp2_with fail
              have hq0 := HQ.out.c0.1
              have hq1 := HQ.out.c0.2
              by_cases ha2 : a2 < li.length
              · have hd2 : decide ((a2 : Int) < (li.length : Int)) = true := decide_eq_true (by omega)
                have ha2z : (a2 : Int) < (li.length : Int) := by omega
                go_wp2_with fail
                go_quiet (fail)
                have HQ := Lib.hid (HQ.out.drewN nq)
                have HB := Lib.hid (HB.out.trans ((⟨rfl, rfl, rfl, Nat.le_refl _, fun _ _ => rfl⟩ : Below w_3.heap.size wr (wr.drewN nq))))
                generalize wr.drewN nq = wr at *
                go_wp2_with fail
                go_roundw
                case rel => exact ⟨i + 1, a2, by omega, rfl, by go_num, HDROP2.out, ha2l, HB.out⟩
                case measure => simp [intOf]; omega
              · have hd2 : decide ((a2 : Int) < (li.length : Int)) = false := decide_eq_false (by omega)
                have ha2z : ¬ (a2 : Int) < (li.length : Int) := by omega
                go_wp2_with fail
                go_quiet (fail)
                have HQ := Lib.hid (HQ.out.drewN nq)
                have HB := Lib.hid (HB.out.trans ((⟨rfl, rfl, rfl, Nat.le_refl _, fun _ _ => rfl⟩ : Below w_3.heap.size wr (wr.drewN nq))))
                generalize wr.drewN nq = wr at *
                go_wp2_with fail
                go_roundw
                case rel => exact ⟨i + 1, a2, by omega, rfl, by go_num, HDROP2.out, ha2l, HB.out⟩
                case measure => simp [intOf]; omega
      · have hl0 : a = li.length := by
          apply Classical.byContradiction
          intro hc
          have h := HDROP.out
          rw [Ru.runsF_in (by omega)] at h
          have := congrArg List.length h
          rw [List.length_drop] at this
          simp at this; omega
        subst hl0
        have hiz : ¬ (i : Int) < (U.length : Int) := by omega
        have HBE := Lib.hid (B0.out.trans (HB.out.mono B0.out.size))
        go_wp2_with fail
        go_ret
        exact ⟨rfl, HBE.out⟩

set_option maxRecDepth 100000 in
theorem lifted (os : Os) (started : os.Started) (H : Type) (enc : TypeId × Value → H) :
    ReturnsInHanded {} Try.checked os 6 .any (Rows.fnNaturalRunsSpec.pre6 enc Try.prog Try.f6 Rows.fnNaturalRunsRow.domain false) (Rows.fnNaturalRunsSpec.post enc Try.prog Try.f6 false true false false) := by
  refine returnsInHanded_of_change (C := Try.checked) own started (by kernel_rfl) Try.func6
    (ChangeSpec.witness6 (enc := enc) (C := Try.checked) false ⟨#[], #[.slice none 0 0], []⟩ 8 (by kernel_rfl) (by kernel_rfl) (by kernel_rfl) (by kernel_rfl)) ?_
  intro W base args ds gs before hval0 hW hcnd _
  have hval : ∀ (j : Nat) t v, Try.f6.params[j]? = some t → args[j]? = some v → Value.okWide Try.prog W .any base t v := hval0
  have hW' := hW
  obtain ⟨p, q, hA0, hV, rfl, hfz, hnd⟩ := hW
  have hA : DataW.TrodAll enc Try.prog W 0 (fun _ => true) true Try.f6.params.toList args.toList ds p := hA0
  rw [Try.params6] at hA hval
  obtain ⟨v0, vs0, d0, ds0, p0, q0, hargs, rfl, rfl, h0, r0⟩ := trodAll_cons hA
  obtain ⟨rfl, rfl, rfl⟩ := trodAll_nil r0
  obtain rfl : args = #[v0] := by cases args; simp_all
  obtain ⟨rfl, rfl⟩ := trodVars_none hV
  obtain ⟨a0, len0, cap0, rfl⟩ := okWide_slice Try.underlying22 (hval 0 22 v0 rfl rfl)
  have k0 := h0
  have lt0 : ∀ x ∈ p0, x.block < W.heap.size := by obtain ⟨m, hm⟩ := k0; exact DataW.trod_lt m _ _ _ hm
  obtain ⟨z0, w0⟩ : ∃ zs, IsRow .u8 W a0 len0 cap0 zs := by
    obtain ⟨fuel, hf⟩ := h0
    rcases open_ints Try.underlying22 Try.underlying5 (by kernel_rfl) hf with ⟨hcs, _⟩ | ⟨x, l, c, zs, hcs, _, hl, hm, hz, _, hcell, hwz⟩
    · simp [Value.cells] at hcs
      obtain ⟨rfl, rfl, rfl⟩ := hcs
      exact ⟨[], .inl ⟨rfl, rfl, rfl, rfl⟩⟩
    · simp [Value.cells] at hcs
      obtain ⟨rfl, rfl, rfl⟩ := hcs
      exact ⟨zs, .inr ⟨_, rfl, hl, hm, by simpa using hz, hcell, hwz⟩⟩
  clear hA0 hval0
  refine (walk a0 len0 cap0 z0 W w0).mono fun e W' ⟨he, bel⟩ => ?_
  subst he
  exact ⟨_, rfl, _, _, _, [], _, [], hW', trodAll_mk1 (shut_bool Try.underlying4 _), (trodAll_cons_mk (Below.trod laidOut (by kernel_rfl) (of_decide_eq_true (by kernel_rfl)) k0 bel lt0) trodAll_mk0), rfl, bel.frame _, fun h => by cases h⟩

theorem over : Rows.fnNaturalRunsRow.holds Try.pinned (OpenSpec.ofChange Rows.fnNaturalRunsSpec) :=
  OpenClaim.holds_of_wide 6 Try.f6 rfl rfl rfl rfl rfl rfl rfl ⟨rfl, rfl, rfl, rfl, rfl⟩ rfl rfl rfl rfl rfl (by kernel_rfl) Try.func6 (by kernel_rfl)
    (of_decide_eq_true (by kernel_rfl)) (by unfold Func.isWrapper; first | (rw [if_pos (by decide +kernel)]; kernel_rfl) | (rw [if_neg (by decide +kernel)]; exact ⟨rfl, rfl⟩))
    (fun os started H enc _ => lifted os started H enc)

theorem proved : Rows.FnNaturalRunsSaid := over
#print axioms proved
end Go.Proofs.Ytnjabdlhgmaeiaa.fnNaturalRuns
