/- FnPartition returns true at every input. No condition. -/
import Derived.Test.YtipdfmedbcafpaaRows
import Derived.WalkKit
import Derived.ProofKit
import Derived.OpenShut
import Derived.ShutString
import Derived.ChangeOld
import Derived.Below
import Derived.SliceStrings
import Derived.Test.YtipdfmedbcafpaaHead
import Derived.Test.YtipdfmedbcafpaaSLom
import Derived.Test.YtipdfmedbcafpaaILom
import Derived.Test.YtipdfmedbcafpaaSHoa
import Derived.Test.YtipdfmedbcafpaaIHoa
import Derived.Test.YtipdfmedbcafpaaRetF
import Derived.Test.YtipdfmedbcafpaaVOrd
import Derived.Test.YtipdfmedbcafpaaVInts
import Derived.Test.YtipdfmedbcafpaaDrawQk
import Derived.Test.YtipdfmedbcafpaaCode
namespace Go.Proofs.Ytipdfmedbcafpaa.fnPartition
open Go.ChangeShapes Go.WideShapes Go.ChangeAt Go.RowKit
open Go.ChangeMaps (open_string shut_string)
set_option linter.unusedVariables false

theorem own : ownKnob Try.prog.godebug = none := by kernel_rfl
theorem laidOut : laidOutB Try.prog = true := by kernel_rfl

def IsRow (k : IntKind) (w : World) (a : Option Addr) (len cap : Nat) (zs : List Int) : Prop :=
  (a = none ∧ len = 0 ∧ cap = 0 ∧ zs = []) ∨
  ∃ x, a = some x ∧ len ≤ cap ∧ cap ≤ maxLen ∧ zs.length = cap ∧ (∀ i, i < zs.length → w.cell? (x.add i) = some (.int k (zs.getD i 0))) ∧ ∀ n ∈ zs, (Lit.int k n).wf = true

theorem code_of {w : World} {a : Option Addr} {len cap : Nat} {zs : List Int} (h : IsRow .u8 w a len cap zs) : Code0 w a len := by
  intro k hk
  rcases h with ⟨_, rfl, _⟩ | ⟨x, rfl, hlc, _, hz, hc, hw⟩
  · omega
  · have hkz : k < zs.length := by omega
    have hd : zs.getD k 0 = zs[k] := by simp [List.getD, hkz]
    have hm := hw zs[k] (List.getElem_mem hkz)
    have hcell := hc k hkz
    rw [hd] at hcell
    have hlt := World.block_lt_of_cell? w _ hcell
    have hbk := Go.ChangeShapes.block_add x k
    have hr := bounds_u8 hm
    exact ⟨x, zs[k], rfl, by omega, hcell, hr.1, hr.2⟩

theorem vbig_no (a : Option Addr) (len cap : Nat) (w : World) (h : len ≤ 65536) : Calls Try.prog 16 #[.slice a len cap] w fun e w' => e = .returned (.bool false) ∧ w' = w := by
  go_enter Try.func16, Try.ntmps16
  have hq : decide ((65536 : Int) < (len : Int)) = false := decide_eq_false (by omega)
  go_wp2
  go_ret
  exact ⟨by rw [← hq]; rfl, rfl⟩

set_option maxRecDepth 100000 in
set_option maxHeartbeats 40000000 in
theorem walk (a : Option Addr) (len cap : Nat) (z : List Int) (w : World) (w0 : IsRow .u8 w a len cap z) :
    Calls Try.prog 6 #[.slice a len cap] w fun e w' => e = .returned (.bool true) ∧ Below w.heap.size w w' := by
  have hlen : len ≤ maxLen := by
    rcases w0 with ⟨_, rfl, _⟩ | ⟨x, _, h1, h2, _⟩ <;> omega
  unfold maxLen at hlen
  have HCODE := Lib.hid (code_of w0)
  clear w0
  by_cases hbig : 65536 < len
  · clear HCODE
    go_enter Try.func6, Try.ntmps6
    go_wp2
    go_ret
    exact ⟨rfl, Below.refl _ _⟩
  · go_enter Try.func6, Try.ntmps6
    go_wp2_with fail
    refine (vbig_no a len cap _ (by omega)).mono ?_
    rintro e w0 ⟨rfl, rfl⟩
    clear hlen hbig
    have B0 : Hid (Below w0.heap.size w0 w0) := Lib.hid (Below.refl _ _)
    have HCODE0 := HCODE
    go_wp2_with fail
    refine (drawLom_any a len cap _ HCODE.out).mono ?_
    rintro e w_1 ⟨gRL, cRL, li, pv, hlRL, hp1, hp2, rfl, hcRL, hrow, hb⟩
    have RL := Lib.hid hrow
    have hnRL : li.length ≤ 1048576 := by omega
    have BN := Lib.hid (B0.out.trans (hb.mono B0.out.size))
    clear B0
    have B0 := BN
    clear BN
    clear hrow hb HCODE
    obtain ⟨S, at0, okl, hS⟩ : ∃ x y b, Qk.lomAll li pv = (x, y, b) := ⟨_, _, _, rfl⟩
    have HI := Lib.hid (fun b o c W (h : FlatAt W (.slice (some ⟨b, o, none⟩) li.length c) li.length (ints li)) => by have := implLom_any b o c li pv W h hnRL; rw [hS] at this; exact this)
    have HSP := Lib.hid (fun b o c W (h : FlatAt W (.slice (some ⟨b, o, none⟩) li.length c) li.length (ints li)) => by have := specLom_any b o c li pv W h hnRL; rw [hS] at this; exact this)
    have hs : S.length ≤ 1048576 := by have := Qk.lomAll_len li pv; rw [hS] at this; exact this
    have HYS : Hid (okl = true → ∃ pn k : Nat, pv = pn ∧ at0 = k ∧ pn < li.length ∧ k < S.length ∧ li.length ≤ 64 ∧ S.length ≤ 64 ∧ S.getD k 0 = li.getD pn 0 ∧ El.srt S = El.srt li ∧ (∀ j, j < k → S.getD j 0 < S.getD k 0) ∧ (∀ j, k < j → j < S.length → S.getD k 0 ≤ S.getD j 0)) := Lib.hid (fun hk => by
      by_cases h : OkL li ∧ 0 ≤ pv ∧ pv < li.length
      · obtain ⟨pn, rfl⟩ : ∃ pn : Nat, pv = pn := ⟨pv.toNat, by omega⟩
        have hp : pn < li.length := by omega
        rw [Qk.lomAll_yes h.1 hp] at hS
        simp only [Prod.mk.injEq] at hS
        obtain ⟨a1, a2, a3, a4, a5⟩ := Qk.lomF_spec hp
        have hl := a1.length_eq
        rw [hS.1] at a1 a3 a4 a5 hl
        have h64 := h.1.1
        refine ⟨pn, _, rfl, hS.2.1.symm, hp, by omega, h64, by omega, a3, El.srt_uniq (El.srt_asc S) ((El.srt_perm S).trans a1), fun j hj => by rw [a3]; exact a4 j hj, fun j hj hj2 => by rw [a3]; exact a5 j hj (by omega)⟩
      · rw [Qk.lomAll_no h] at hS; simp only [Prod.mk.injEq] at hS; rw [← hS.2.2] at hk; cases hk)
    clear hS
    go_wp2_with fail
    refine (HI.out _ _ _ _ (RL.out.flat hcRL)).mono ?_
    rintro e w_2 ⟨gRQ, cRQ, rfl, hcRQ, hg, hrow, hb⟩
    simp only at hcRQ hrow
    have hyRQ := Lib.hid hrow
    have RLz := Lib.hid (RL.out.below hb RL.out.1)
    clear RL
    have RL := RLz
    clear RLz
    have BN := Lib.hid (B0.out.trans (hb.mono B0.out.size))
    clear B0
    have B0 := BN
    clear BN
    have RQ := hyRQ
    clear hyRQ hrow hb hg
    go_wp2_with fail
    refine (HSP.out _ _ _ _ (RL.out.flat hcRL)).mono ?_
    rintro e w_3 ⟨gRW, cRW, rfl, hcRW, hg, hrow, hb⟩
    simp only at hcRW hrow
    have hyRW := Lib.hid hrow
    have RLz := Lib.hid (RL.out.below hb RL.out.1)
    clear RL
    have RL := RLz
    clear RLz
    have RQz := Lib.hid (RQ.out.below hb RQ.out.1)
    clear RQ
    have RQ := RQz
    clear RQz
    have BN := Lib.hid (B0.out.trans (hb.mono B0.out.size))
    clear B0
    have B0 := BN
    clear BN
    have RW := hyRW
    clear hyRW hrow hb hg
    go_wp2_with fail
    refine (vInts_yes _ _ S _ (RQ.out.flat hcRQ) (RW.out.flat hcRW) hs).mono ?_
    rintro e w_4 ⟨rfl, hb⟩
    have RLz := Lib.hid (RL.out.below hb RL.out.1)
    clear RL
    have RL := RLz
    clear RLz
    have RQz := Lib.hid (RQ.out.below hb RQ.out.1)
    clear RQ
    have RQ := RQz
    clear RQz
    have RWz := Lib.hid (RW.out.below hb RW.out.1)
    clear RW
    have RW := RWz
    clear RWz
    have BN := Lib.hid (B0.out.trans (hb.mono B0.out.size))
    clear B0
    have B0 := BN
    clear BN
    clear hb
    clear RW
    clear HI HSP
    cases okl
    case false =>
      clear HYS
      have HCODE := Lib.hid (HCODE0.out.below B0.out)
      clear HCODE0
      go_wp2_with fail
      refine (drawHoare_any a len cap _ HCODE.out).mono ?_
      rintro e w_5 ⟨gRX, cRX, xs, hlRX, rfl, hcRX, hrow, hb⟩
      have RX := Lib.hid hrow
      have hnRX : xs.length ≤ 1048576 := by omega
      have RLz := Lib.hid (RL.out.below hb RL.out.1)
      clear RL
      have RL := RLz
      clear RLz
      have RQz := Lib.hid (RQ.out.below hb RQ.out.1)
      clear RQ
      have RQ := RQz
      clear RQz
      have BN := Lib.hid (B0.out.trans (hb.mono B0.out.size))
      clear B0
      have B0 := BN
      clear BN
      clear hrow hb HCODE
      obtain ⟨H, fr, fine, hH⟩ : ∃ x y b, Qk.hoAll xs = (x, y, b) := ⟨_, _, _, rfl⟩
      have HI := Lib.hid (fun b o c W (h : FlatAt W (.slice (some ⟨b, o, none⟩) xs.length c) xs.length (ints xs)) => by have := implHoa_any b o c xs W h hnRX; rw [hH] at this; exact this)
      have HSP := Lib.hid (fun b o c W (h : FlatAt W (.slice (some ⟨b, o, none⟩) xs.length c) xs.length (ints xs)) => by have := specHoa_any b o c xs W h hnRX; rw [hH] at this; exact this)
      have hh : H.length ≤ 1048576 := by have := Qk.hoAll_len xs; rw [hH] at this; exact this
      have HYH : Hid ((fine = true → ∃ m : Nat, fr = m ∧ 1 ≤ m ∧ m ≤ H.length ∧ xs.length ≤ 64 ∧ H.length ≤ 64 ∧ El.srt H = El.srt xs ∧ ∀ i k, i < m → m ≤ k → k < H.length → H.getD i 0 ≤ H.getD k 0) ∧ (fine = false → H = [])) := Lib.hid (by
        by_cases h : OkL xs ∧ 0 < xs.length
        · rw [Qk.hoAll_yes h] at hH
          simp only [Prod.mk.injEq] at hH
          refine ⟨fun _ => ?_, (fun hk => by rw [← hH.2.2] at hk; cases hk)⟩
          have hp := Qk.hoF_spec h.2
          have hl := hp.perm.length_eq
          have h64 := h.1.1
          rw [← hH.1]
          exact ⟨_, hH.2.1.symm, hp.one, by rw [hl]; exact hp.le, h64, by omega, El.srt_uniq (El.srt_asc _) ((El.srt_perm _).trans hp.perm), fun i k h1 h2 h3 => Int.le_trans (hp.lo i h1) (hp.hi k h2 (by omega))⟩
        · rw [Qk.hoAll_no h] at hH
          simp only [Prod.mk.injEq] at hH
          exact ⟨(fun hk => by rw [← hH.2.2] at hk; cases hk), fun _ => hH.1.symm⟩)
      clear hH
      go_wp2_with fail
      refine (HI.out _ _ _ _ (RX.out.flat hcRX)).mono ?_
      rintro e w_6 ⟨gRH, cRH, rfl, hcRH, hg, hrow, hb⟩
      simp only at hcRH hrow
      have hyRH := Lib.hid hrow
      have RLz := Lib.hid (RL.out.below hb RL.out.1)
      clear RL
      have RL := RLz
      clear RLz
      have RQz := Lib.hid (RQ.out.below hb RQ.out.1)
      clear RQ
      have RQ := RQz
      clear RQz
      have RXz := Lib.hid (RX.out.below hb RX.out.1)
      clear RX
      have RX := RXz
      clear RXz
      have BN := Lib.hid (B0.out.trans (hb.mono B0.out.size))
      clear B0
      have B0 := BN
      clear BN
      have RH := hyRH
      clear hyRH hrow hb hg
      go_wp2_with fail
      refine (HSP.out _ _ _ _ (RX.out.flat hcRX)).mono ?_
      rintro e w_7 ⟨gRV, cRV, rfl, hcRV, hg, hrow, hb⟩
      simp only at hcRV hrow
      have hyRV := Lib.hid hrow
      have RLz := Lib.hid (RL.out.below hb RL.out.1)
      clear RL
      have RL := RLz
      clear RLz
      have RQz := Lib.hid (RQ.out.below hb RQ.out.1)
      clear RQ
      have RQ := RQz
      clear RQz
      have RXz := Lib.hid (RX.out.below hb RX.out.1)
      clear RX
      have RX := RXz
      clear RXz
      have RHz := Lib.hid (RH.out.below hb RH.out.1)
      clear RH
      have RH := RHz
      clear RHz
      have BN := Lib.hid (B0.out.trans (hb.mono B0.out.size))
      clear B0
      have B0 := BN
      clear BN
      have RV := hyRV
      clear hyRV hrow hb hg
      go_wp2_with fail
      refine (vInts_yes _ _ H _ (RH.out.flat hcRH) (RV.out.flat hcRV) hh).mono ?_
      rintro e w_8 ⟨rfl, hb⟩
      have RLz := Lib.hid (RL.out.below hb RL.out.1)
      clear RL
      have RL := RLz
      clear RLz
      have RQz := Lib.hid (RQ.out.below hb RQ.out.1)
      clear RQ
      have RQ := RQz
      clear RQz
      have RXz := Lib.hid (RX.out.below hb RX.out.1)
      clear RX
      have RX := RXz
      clear RXz
      have RHz := Lib.hid (RH.out.below hb RH.out.1)
      clear RH
      have RH := RHz
      clear RHz
      have RVz := Lib.hid (RV.out.below hb RV.out.1)
      clear RV
      have RV := RVz
      clear RVz
      have BN := Lib.hid (B0.out.trans (hb.mono B0.out.size))
      clear B0
      have B0 := BN
      clear BN
      clear hb
      clear RV
      clear HI HSP
      cases fine
      case false =>
        obtain rfl := HYH.out.2 (by first | rfl | trivial)
        clear HYH
        go_wp2_with fail
        go_ret
        exact ⟨rfl, B0.out⟩
      obtain ⟨m, rfl, hm1, hm2, hx64, hh64, hse, hle⟩ := HYH.out.1 (by first | rfl | trivial)
      have HLE := Lib.hid hle
      have HVH := Lib.hid (fun b o c W (h : FlatAt W (.slice (some ⟨b, o, none⟩) H.length c) H.length (ints H)) => vOrdered_any b o c H W h hh64)
      have HVX := Lib.hid (fun b o c W (h : FlatAt W (.slice (some ⟨b, o, none⟩) xs.length c) xs.length (ints xs)) => by have := vOrdered_any b o c xs W h hx64; rw [← hse] at this; exact this)
      have hsl : (El.srt H).length ≤ 1048576 := by rw [El.srt_length]; exact hh
      obtain ⟨U, hU⟩ : ∃ U, U = El.srt H := ⟨_, rfl⟩
      rw [← hU] at HVH HVX hsl
      clear hse hle HYH hU
      go_wp2_with fail
      go_loopw [19, 20] (fun iv _ wr => ∃ i : Nat, iv = .int .i64 (i : Int) ∧ i ≤ m ∧ CellRow wr gRH (ints H) ∧ Below w_8.heap.size w_8 wr) (fun iv _ _ => m - (intOf iv).toNat)
      case atStart => exact ⟨0, rfl, Nat.zero_le _, RH.out, Below.refl _ _⟩
      case round =>
        obtain ⟨i, rfl, him, hrow, hb⟩ := hrel
        have RI := Lib.hid hrow
        have HBI := Lib.hid hb
        clear hrow hb
        by_cases hlt : i < m
        · have hiz : (i : Int) < (m : Int) := by omega
          have hid : decide ((i : Int) < (m : Int)) = true := decide_eq_true hiz
          have hiH : i < H.length := by omega
          have hiHz : (i : Int) < H.length := by omega
          obtain ⟨y, hy⟩ : ∃ y, y = H.getD i 0 := ⟨_, rfl⟩
          have HY := Lib.hid hy
          clear hy
          go_wp2_with fail
          go_loopw [20] (fun kv ws => ∃ k : Nat, kv = .int .i64 (k : Int) ∧ m ≤ k ∧ k ≤ H.length ∧ CellRow ws gRH (ints H) ∧ Below w_8.heap.size w_8 ws) (fun kv _ => H.length - (intOf kv).toNat)
          case atStart => exact ⟨m, rfl, Nat.le_refl _, hm2, RI.out, HBI.out⟩
          case round =>
            obtain ⟨k, rfl, hmk, hkH, hrow, hb⟩ := hrel
            have RK := Lib.hid hrow
            have HBK := Lib.hid hb
            clear hrow hb
            by_cases hlk : k < H.length
            · have hkz : (k : Int) < (H.length : Int) := by omega
              have hkd : decide ((k : Int) < (H.length : Int)) = true := decide_eq_true hkz
              obtain ⟨hci, _⟩ := RK.out.2 i _ (ints_at (P.at_getD hiH))
              obtain ⟨hck, _⟩ := RK.out.2 k _ (ints_at (P.at_getD hlk))
              obtain ⟨v, hv⟩ : ∃ v, v = H.getD k 0 := ⟨_, rfl⟩
              have hno : ¬ v < y := by have := HLE.out i k hlt hmk hlk; rw [hv, HY.out]; omega
              have hnd : decide (v < y) = false := decide_eq_false hno
              rw [← HY.out] at hci
              rw [← hv] at hck
              have HKN : Hid (∀ t, CellRow (wr.drewN t) gRH (ints H) ∧ Below w_8.heap.size w_8 (wr.drewN t)) := Lib.hid (fun t => ⟨RK.out.same rfl (Nat.le_refl _), HBK.out.trans ⟨rfl, rfl, rfl, Nat.le_refl _, fun _ _ => rfl⟩⟩)
              clear hv RK HBK
              go_wp2_with fail
              go_quiet (fail)
              go_wp2_with fail
              go_roundw
              case rel => exact ⟨k + 1, by go_num, by omega, by omega, (HKN.out _).1, (HKN.out _).2⟩
              case measure => simp [intOf]; omega
            · have hkz : ¬ (k : Int) < (H.length : Int) := by omega
              have hkd : decide ((k : Int) < (H.length : Int)) = false := decide_eq_false hkz
              go_wp2_with fail
              go_roundw
              case rel => exact ⟨i + 1, by go_num, by omega, RK.out, HBK.out⟩
              case measure => simp [intOf]; omega
        · have hiz : ¬ (i : Int) < (m : Int) := by omega
          have hid : decide ((i : Int) < (m : Int)) = false := decide_eq_false hiz
          have hb := HBI.out
          clear RI
          have RLz := Lib.hid (RL.out.below hb RL.out.1)
          clear RL
          have RL := RLz
          clear RLz
          have RQz := Lib.hid (RQ.out.below hb RQ.out.1)
          clear RQ
          have RQ := RQz
          clear RQz
          have RXz := Lib.hid (RX.out.below hb RX.out.1)
          clear RX
          have RX := RXz
          clear RXz
          have RHz := Lib.hid (RH.out.below hb RH.out.1)
          clear RH
          have RH := RHz
          clear RHz
          have BN := Lib.hid (B0.out.trans (hb.mono B0.out.size))
          clear B0
          have B0 := BN
          clear BN
          clear hb HBI
          have hmz1 : decide ((1 : Int) ≤ (m : Int)) = true := decide_eq_true (by omega)
          have hmz2 : decide ((m : Int) ≤ (H.length : Int)) = true := decide_eq_true (by omega)
          have hmz3 : (1 : Int) ≤ (m : Int) := by omega
          have hmz4 : (m : Int) ≤ (H.length : Int) := by omega
          go_wp2_with fail
          refine (HVH.out _ _ _ _ (RH.out.flat hcRH)).mono ?_
          rintro e w_9 ⟨gRO, cRO, rfl, hcRO, hg, hrow, hb⟩
          have hyRO := Lib.hid hrow
          have RLz := Lib.hid (RL.out.below hb RL.out.1)
          clear RL
          have RL := RLz
          clear RLz
          have RQz := Lib.hid (RQ.out.below hb RQ.out.1)
          clear RQ
          have RQ := RQz
          clear RQz
          have RXz := Lib.hid (RX.out.below hb RX.out.1)
          clear RX
          have RX := RXz
          clear RXz
          have RHz := Lib.hid (RH.out.below hb RH.out.1)
          clear RH
          have RH := RHz
          clear RHz
          have BN := Lib.hid (B0.out.trans (hb.mono B0.out.size))
          clear B0
          have B0 := BN
          clear BN
          have RO := hyRO
          clear hyRO hrow hb hg HVH
          go_wp2_with fail
          refine (HVX.out _ _ _ _ (RX.out.flat hcRX)).mono ?_
          rintro e w_10 ⟨gRP, cRP, rfl, hcRP, hg, hrow, hb⟩
          have hyRP := Lib.hid hrow
          have RLz := Lib.hid (RL.out.below hb RL.out.1)
          clear RL
          have RL := RLz
          clear RLz
          have RQz := Lib.hid (RQ.out.below hb RQ.out.1)
          clear RQ
          have RQ := RQz
          clear RQz
          have RXz := Lib.hid (RX.out.below hb RX.out.1)
          clear RX
          have RX := RXz
          clear RXz
          have RHz := Lib.hid (RH.out.below hb RH.out.1)
          clear RH
          have RH := RHz
          clear RHz
          have ROz := Lib.hid (RO.out.below hb RO.out.1)
          clear RO
          have RO := ROz
          clear ROz
          have BN := Lib.hid (B0.out.trans (hb.mono B0.out.size))
          clear B0
          have B0 := BN
          clear BN
          have RP := hyRP
          clear hyRP hrow hb hg HVX
          go_wp2_with fail
          refine (vInts_yes _ _ U _ (RO.out.flat hcRO) (RP.out.flat hcRP) hsl).mono ?_
          rintro e w_11 ⟨rfl, hb⟩
          have RLz := Lib.hid (RL.out.below hb RL.out.1)
          clear RL
          have RL := RLz
          clear RLz
          have RQz := Lib.hid (RQ.out.below hb RQ.out.1)
          clear RQ
          have RQ := RQz
          clear RQz
          have RXz := Lib.hid (RX.out.below hb RX.out.1)
          clear RX
          have RX := RXz
          clear RXz
          have RHz := Lib.hid (RH.out.below hb RH.out.1)
          clear RH
          have RH := RHz
          clear RHz
          have ROz := Lib.hid (RO.out.below hb RO.out.1)
          clear RO
          have RO := ROz
          clear ROz
          have RPz := Lib.hid (RP.out.below hb RP.out.1)
          clear RP
          have RP := RPz
          clear RPz
          have BN := Lib.hid (B0.out.trans (hb.mono B0.out.size))
          clear B0
          have B0 := BN
          clear BN
          clear hb
          go_wp2_with fail
          go_ret
          exact ⟨rfl, B0.out⟩
    obtain ⟨pn, k, rfl, rfl, hpn, hkS, hl64, hs64, hat, hse, hlo, hhi⟩ := HYS.out (by first | rfl | trivial)
    have HLO := Lib.hid hlo
    have HHI := Lib.hid hhi
    have HVP := Lib.hid (fun b o c W (h : FlatAt W (.slice (some ⟨b, o, none⟩) S.length c) S.length (ints S)) => vOrdered_any b o c S W h hs64)
    have HVL := Lib.hid (fun b o c W (h : FlatAt W (.slice (some ⟨b, o, none⟩) li.length c) li.length (ints li)) => by have := vOrdered_any b o c li W h hl64; rw [← hse] at this; exact this)
    have hsl : (El.srt S).length ≤ 1048576 := by rw [El.srt_length]; exact hs
    obtain ⟨U, hU⟩ : ∃ U, U = El.srt S := ⟨_, rfl⟩
    rw [← hU] at HVP HVL hsl
    obtain ⟨x, hx⟩ : ∃ x, x = S.getD k 0 := ⟨_, rfl⟩
    obtain ⟨hcp, _⟩ := RQ.out.2 k _ (ints_at (P.at_getD hkS))
    obtain ⟨hcl, _⟩ := RL.out.2 pn _ (ints_at (P.at_getD hpn))
    rw [← hat, ← hx] at hcl
    rw [← hx] at hcp
    have HX := Lib.hid hx
    have hkz : (k : Int) < (S.length : Int) := by omega
    have hpz : (pn : Int) < (li.length : Int) := by omega
    have hxx : (x != x) = false := by simp
    clear hse hlo hhi HYS hU hat hx hp1 hp2
    go_wp2_with fail
    have HFP : Hid (FlatAt (w_4.drewN 1) (.slice (some ⟨gRQ, 0, none⟩) S.length cRQ) S.length (ints S) ∧ FlatAt (w_4.drewN 1) (.slice (some ⟨gRL, 0, none⟩) li.length cRL) li.length (ints li)) := Lib.hid ⟨(RQ.out.same (w' := w_4.drewN 1) rfl (Nat.le_refl _)).flat hcRQ, (RL.out.same (w' := w_4.drewN 1) rfl (Nat.le_refl _)).flat hcRL⟩
    go_region_with (first
      | (go_at_call 20; refine (vInts_yes _ _ U _ ((hra.below hbb hra.1).flat hca) (hrb.flat hcb) hsl).mono ?_; rintro e wc ⟨rfl, hbc⟩)
      | (go_at_call_of 37 (Value.slice (some ⟨gRL, 0, none⟩) li.length cRL); refine (HVL.out _ _ _ _ (HFP.out.2.below hba)).mono ?_; rintro e wb ⟨gb, cb, rfl, hcb, _, hrb, hbb⟩)
      | (go_at_call_of 37 (Value.slice (some ⟨gRQ, 0, none⟩) S.length cRQ); refine (HVP.out _ _ _ _ HFP.out.1).mono ?_; rintro e wa ⟨ga, ca, rfl, hca, _, hra, hba⟩))
    all_goals
      have hb : Below w_4.heap.size w_4 wc := (⟨rfl, rfl, rfl, Nat.le_refl _, fun _ _ => rfl⟩ : Below w_4.heap.size w_4 (w_4.drewN 1)).trans (hba.trans ((hbb.mono hba.size).trans (hbc.mono (Nat.le_trans hba.size hbb.size))))
      have RLz := Lib.hid (RL.out.below hb RL.out.1)
      clear RL
      have RL := RLz
      clear RLz
      have RQz := Lib.hid (RQ.out.below hb RQ.out.1)
      clear RQ
      have RQ := RQz
      clear RQz
      have BN := Lib.hid (B0.out.trans (hb.mono B0.out.size))
      clear B0
      have B0 := BN
      clear BN
      clear hb hra hrb hba hbb hbc hca hcb HVP HVL HFP hcp hcl hxx hsl
      go_wp2_with fail
      go_loopw [11] (fun iv wr => ∃ i : Nat, iv = .int .i64 (i : Int) ∧ i ≤ S.length ∧ CellRow wr gRQ (ints S) ∧ Below wc.heap.size wc wr) (fun iv _ => S.length - (intOf iv).toNat)
      case atStart => exact ⟨0, rfl, Nat.zero_le _, RQ.out, Below.refl _ _⟩
      case round =>
        obtain ⟨i, rfl, hiS, hrow, hb⟩ := hrel
        have RI := Lib.hid hrow
        have HBI := Lib.hid hb
        clear hrow hb
        by_cases hlt : i < S.length
        · have hiz : (i : Int) < (S.length : Int) := by omega
          have hid : decide ((i : Int) < (S.length : Int)) = true := decide_eq_true hiz
          obtain ⟨y, hy⟩ : ∃ y, y = S.getD i 0 := ⟨_, rfl⟩
          obtain ⟨hci, _⟩ := RI.out.2 i _ (ints_at (P.at_getD hlt))
          obtain ⟨hck, _⟩ := RI.out.2 k _ (ints_at (P.at_getD hkS))
          rw [← hy] at hci
          rw [← HX.out] at hck
          have HKN : Hid (∀ t, CellRow (wr.drewN t) gRQ (ints S) ∧ Below wc.heap.size wc (wr.drewN t)) := Lib.hid (fun t => ⟨RI.out.same rfl (Nat.le_refl _), HBI.out.trans ⟨rfl, rfl, rfl, Nat.le_refl _, fun _ _ => rfl⟩⟩)
          have HYV := Lib.hid hy
          clear hy RI HBI
          rcases (show i < k ∨ i = k ∨ k < i by omega) with h1 | h1 | h1
          · have hyx : y < x := by have := HLO.out i h1; rw [HX.out, HYV.out]; exact this
            have hg1 : decide (i < k) = true := decide_eq_true h1
            have hg2 : decide (k < i) = false := decide_eq_false (by omega)
            have hg3 : decide (x ≤ y) = false := decide_eq_false (by omega)
            have hg4 : (i : Int) < (k : Int) := by omega
            have hg5 : ¬ (k : Int) < (i : Int) := by omega
            go_wp2_with fail
            go_quiet (fail)
            go_wp2_with fail
            go_roundw
            case rel => exact ⟨i + 1, by go_num, by omega, (HKN.out _).1, (HKN.out _).2⟩
            case measure => simp [intOf]; omega
          · have hg1 : decide (i < k) = false := decide_eq_false (by omega)
            have hg2 : decide (k < i) = false := decide_eq_false (by omega)
            have hg4 : ¬ (i : Int) < (k : Int) := by omega
            have hg5 : ¬ (k : Int) < (i : Int) := by omega
            clear h1
            go_wp2_with fail
            go_quiet (fail)
            go_wp2_with fail
            go_roundw
            case rel => exact ⟨i + 1, by go_num, by omega, (HKN.out _).1, (HKN.out _).2⟩
            case measure => simp [intOf]; omega
          · have hyx : x ≤ y := by have := HHI.out i h1 hlt; rw [HX.out, HYV.out]; exact this
            have hg1 : decide (i < k) = false := decide_eq_false (by omega)
            have hg2 : decide (k < i) = true := decide_eq_true h1
            have hg3 : decide (y < x) = false := decide_eq_false (by omega)
            have hg4 : ¬ (i : Int) < (k : Int) := by omega
            have hg5 : (k : Int) < (i : Int) := by omega
            go_wp2_with fail
            go_quiet (fail)
            go_wp2_with fail
            go_roundw
            case rel => exact ⟨i + 1, by go_num, by omega, (HKN.out _).1, (HKN.out _).2⟩
            case measure => simp [intOf]; omega
        · have hiz : ¬ (i : Int) < (S.length : Int) := by omega
          have hid : decide ((i : Int) < (S.length : Int)) = false := decide_eq_false hiz
          have hb := HBI.out
          clear RI HLO HHI HX
          have RLz := Lib.hid (RL.out.below hb RL.out.1)
          clear RL
          have RL := RLz
          clear RLz
          have RQz := Lib.hid (RQ.out.below hb RQ.out.1)
          clear RQ
          have RQ := RQz
          clear RQz
          have BN := Lib.hid (B0.out.trans (hb.mono B0.out.size))
          clear B0
          have B0 := BN
          clear BN
          clear hb HBI
          clear RL RQ
          have HCODE := Lib.hid (HCODE0.out.below B0.out)
          clear HCODE0
          go_wp2_with fail
          refine (drawHoare_any a len cap _ HCODE.out).mono ?_
          rintro e w_12 ⟨gRX, cRX, xs, hlRX, rfl, hcRX, hrow, hb⟩
          have RX := Lib.hid hrow
          have hnRX : xs.length ≤ 1048576 := by omega
          have BN := Lib.hid (B0.out.trans (hb.mono B0.out.size))
          clear B0
          have B0 := BN
          clear BN
          clear hrow hb HCODE
          obtain ⟨H, fr, fine, hH⟩ : ∃ x y b, Qk.hoAll xs = (x, y, b) := ⟨_, _, _, rfl⟩
          have HI := Lib.hid (fun b o c W (h : FlatAt W (.slice (some ⟨b, o, none⟩) xs.length c) xs.length (ints xs)) => by have := implHoa_any b o c xs W h hnRX; rw [hH] at this; exact this)
          have HSP := Lib.hid (fun b o c W (h : FlatAt W (.slice (some ⟨b, o, none⟩) xs.length c) xs.length (ints xs)) => by have := specHoa_any b o c xs W h hnRX; rw [hH] at this; exact this)
          have hh : H.length ≤ 1048576 := by have := Qk.hoAll_len xs; rw [hH] at this; exact this
          have HYH : Hid ((fine = true → ∃ m : Nat, fr = m ∧ 1 ≤ m ∧ m ≤ H.length ∧ xs.length ≤ 64 ∧ H.length ≤ 64 ∧ El.srt H = El.srt xs ∧ ∀ i k, i < m → m ≤ k → k < H.length → H.getD i 0 ≤ H.getD k 0) ∧ (fine = false → H = [])) := Lib.hid (by
            by_cases h : OkL xs ∧ 0 < xs.length
            · rw [Qk.hoAll_yes h] at hH
              simp only [Prod.mk.injEq] at hH
              refine ⟨fun _ => ?_, (fun hk => by rw [← hH.2.2] at hk; cases hk)⟩
              have hp := Qk.hoF_spec h.2
              have hl := hp.perm.length_eq
              have h64 := h.1.1
              rw [← hH.1]
              exact ⟨_, hH.2.1.symm, hp.one, by rw [hl]; exact hp.le, h64, by omega, El.srt_uniq (El.srt_asc _) ((El.srt_perm _).trans hp.perm), fun i k h1 h2 h3 => Int.le_trans (hp.lo i h1) (hp.hi k h2 (by omega))⟩
            · rw [Qk.hoAll_no h] at hH
              simp only [Prod.mk.injEq] at hH
              exact ⟨(fun hk => by rw [← hH.2.2] at hk; cases hk), fun _ => hH.1.symm⟩)
          clear hH
          go_wp2_with fail
          refine (HI.out _ _ _ _ (RX.out.flat hcRX)).mono ?_
          rintro e w_13 ⟨gRH, cRH, rfl, hcRH, hg, hrow, hb⟩
          simp only at hcRH hrow
          have hyRH := Lib.hid hrow
          have RXz := Lib.hid (RX.out.below hb RX.out.1)
          clear RX
          have RX := RXz
          clear RXz
          have BN := Lib.hid (B0.out.trans (hb.mono B0.out.size))
          clear B0
          have B0 := BN
          clear BN
          have RH := hyRH
          clear hyRH hrow hb hg
          go_wp2_with fail
          refine (HSP.out _ _ _ _ (RX.out.flat hcRX)).mono ?_
          rintro e w_14 ⟨gRV, cRV, rfl, hcRV, hg, hrow, hb⟩
          simp only at hcRV hrow
          have hyRV := Lib.hid hrow
          have RXz := Lib.hid (RX.out.below hb RX.out.1)
          clear RX
          have RX := RXz
          clear RXz
          have RHz := Lib.hid (RH.out.below hb RH.out.1)
          clear RH
          have RH := RHz
          clear RHz
          have BN := Lib.hid (B0.out.trans (hb.mono B0.out.size))
          clear B0
          have B0 := BN
          clear BN
          have RV := hyRV
          clear hyRV hrow hb hg
          go_wp2_with fail
          refine (vInts_yes _ _ H _ (RH.out.flat hcRH) (RV.out.flat hcRV) hh).mono ?_
          rintro e w_15 ⟨rfl, hb⟩
          have RXz := Lib.hid (RX.out.below hb RX.out.1)
          clear RX
          have RX := RXz
          clear RXz
          have RHz := Lib.hid (RH.out.below hb RH.out.1)
          clear RH
          have RH := RHz
          clear RHz
          have RVz := Lib.hid (RV.out.below hb RV.out.1)
          clear RV
          have RV := RVz
          clear RVz
          have BN := Lib.hid (B0.out.trans (hb.mono B0.out.size))
          clear B0
          have B0 := BN
          clear BN
          clear hb
          clear RV
          clear HI HSP
          cases fine
          case false =>
            obtain rfl := HYH.out.2 (by first | rfl | trivial)
            clear HYH
            go_wp2_with fail
            go_ret
            exact ⟨rfl, B0.out⟩
          obtain ⟨m, rfl, hm1, hm2, hx64, hh64, hse, hle⟩ := HYH.out.1 (by first | rfl | trivial)
          have HLE := Lib.hid hle
          have HVH := Lib.hid (fun b o c W (h : FlatAt W (.slice (some ⟨b, o, none⟩) H.length c) H.length (ints H)) => vOrdered_any b o c H W h hh64)
          have HVX := Lib.hid (fun b o c W (h : FlatAt W (.slice (some ⟨b, o, none⟩) xs.length c) xs.length (ints xs)) => by have := vOrdered_any b o c xs W h hx64; rw [← hse] at this; exact this)
          have hsl : (El.srt H).length ≤ 1048576 := by rw [El.srt_length]; exact hh
          obtain ⟨U, hU⟩ : ∃ U, U = El.srt H := ⟨_, rfl⟩
          rw [← hU] at HVH HVX hsl
          clear hse hle HYH hU
          go_wp2_with fail
          go_loopw [19, 20] (fun iv _ wr => ∃ i : Nat, iv = .int .i64 (i : Int) ∧ i ≤ m ∧ CellRow wr gRH (ints H) ∧ Below w_15.heap.size w_15 wr) (fun iv _ _ => m - (intOf iv).toNat)
          case atStart => exact ⟨0, rfl, Nat.zero_le _, RH.out, Below.refl _ _⟩
          case round =>
            obtain ⟨i, rfl, him, hrow, hb⟩ := hrel
            have RI := Lib.hid hrow
            have HBI := Lib.hid hb
            clear hrow hb
            by_cases hlt : i < m
            · have hiz : (i : Int) < (m : Int) := by omega
              have hid : decide ((i : Int) < (m : Int)) = true := decide_eq_true hiz
              have hiH : i < H.length := by omega
              have hiHz : (i : Int) < H.length := by omega
              obtain ⟨y, hy⟩ : ∃ y, y = H.getD i 0 := ⟨_, rfl⟩
              have HY := Lib.hid hy
              clear hy
              go_wp2_with fail
              go_loopw [20] (fun kv ws => ∃ k : Nat, kv = .int .i64 (k : Int) ∧ m ≤ k ∧ k ≤ H.length ∧ CellRow ws gRH (ints H) ∧ Below w_15.heap.size w_15 ws) (fun kv _ => H.length - (intOf kv).toNat)
              case atStart => exact ⟨m, rfl, Nat.le_refl _, hm2, RI.out, HBI.out⟩
              case round =>
                obtain ⟨k, rfl, hmk, hkH, hrow, hb⟩ := hrel
                have RK := Lib.hid hrow
                have HBK := Lib.hid hb
                clear hrow hb
                by_cases hlk : k < H.length
                · have hkz : (k : Int) < (H.length : Int) := by omega
                  have hkd : decide ((k : Int) < (H.length : Int)) = true := decide_eq_true hkz
                  obtain ⟨hci, _⟩ := RK.out.2 i _ (ints_at (P.at_getD hiH))
                  obtain ⟨hck, _⟩ := RK.out.2 k _ (ints_at (P.at_getD hlk))
                  obtain ⟨v, hv⟩ : ∃ v, v = H.getD k 0 := ⟨_, rfl⟩
                  have hno : ¬ v < y := by have := HLE.out i k hlt hmk hlk; rw [hv, HY.out]; omega
                  have hnd : decide (v < y) = false := decide_eq_false hno
                  rw [← HY.out] at hci
                  rw [← hv] at hck
                  have HKN : Hid (∀ t, CellRow (wr.drewN t) gRH (ints H) ∧ Below w_15.heap.size w_15 (wr.drewN t)) := Lib.hid (fun t => ⟨RK.out.same rfl (Nat.le_refl _), HBK.out.trans ⟨rfl, rfl, rfl, Nat.le_refl _, fun _ _ => rfl⟩⟩)
                  clear hv RK HBK
                  go_wp2_with fail
                  go_quiet (fail)
                  go_wp2_with fail
                  go_roundw
                  case rel => exact ⟨k + 1, by go_num, by omega, by omega, (HKN.out _).1, (HKN.out _).2⟩
                  case measure => simp [intOf]; omega
                · have hkz : ¬ (k : Int) < (H.length : Int) := by omega
                  have hkd : decide ((k : Int) < (H.length : Int)) = false := decide_eq_false hkz
                  go_wp2_with fail
                  go_roundw
                  case rel => exact ⟨i + 1, by go_num, by omega, RK.out, HBK.out⟩
                  case measure => simp [intOf]; omega
            · have hiz : ¬ (i : Int) < (m : Int) := by omega
              have hid : decide ((i : Int) < (m : Int)) = false := decide_eq_false hiz
              have hb := HBI.out
              clear RI
              have RXz := Lib.hid (RX.out.below hb RX.out.1)
              clear RX
              have RX := RXz
              clear RXz
              have RHz := Lib.hid (RH.out.below hb RH.out.1)
              clear RH
              have RH := RHz
              clear RHz
              have BN := Lib.hid (B0.out.trans (hb.mono B0.out.size))
              clear B0
              have B0 := BN
              clear BN
              clear hb HBI
              have hmz1 : decide ((1 : Int) ≤ (m : Int)) = true := decide_eq_true (by omega)
              have hmz2 : decide ((m : Int) ≤ (H.length : Int)) = true := decide_eq_true (by omega)
              have hmz3 : (1 : Int) ≤ (m : Int) := by omega
              have hmz4 : (m : Int) ≤ (H.length : Int) := by omega
              go_wp2_with fail
              refine (HVH.out _ _ _ _ (RH.out.flat hcRH)).mono ?_
              rintro e w_16 ⟨gRO, cRO, rfl, hcRO, hg, hrow, hb⟩
              have hyRO := Lib.hid hrow
              have RXz := Lib.hid (RX.out.below hb RX.out.1)
              clear RX
              have RX := RXz
              clear RXz
              have RHz := Lib.hid (RH.out.below hb RH.out.1)
              clear RH
              have RH := RHz
              clear RHz
              have BN := Lib.hid (B0.out.trans (hb.mono B0.out.size))
              clear B0
              have B0 := BN
              clear BN
              have RO := hyRO
              clear hyRO hrow hb hg HVH
              go_wp2_with fail
              refine (HVX.out _ _ _ _ (RX.out.flat hcRX)).mono ?_
              rintro e w_17 ⟨gRP, cRP, rfl, hcRP, hg, hrow, hb⟩
              have hyRP := Lib.hid hrow
              have RXz := Lib.hid (RX.out.below hb RX.out.1)
              clear RX
              have RX := RXz
              clear RXz
              have RHz := Lib.hid (RH.out.below hb RH.out.1)
              clear RH
              have RH := RHz
              clear RHz
              have ROz := Lib.hid (RO.out.below hb RO.out.1)
              clear RO
              have RO := ROz
              clear ROz
              have BN := Lib.hid (B0.out.trans (hb.mono B0.out.size))
              clear B0
              have B0 := BN
              clear BN
              have RP := hyRP
              clear hyRP hrow hb hg HVX
              go_wp2_with fail
              refine (vInts_yes _ _ U _ (RO.out.flat hcRO) (RP.out.flat hcRP) hsl).mono ?_
              rintro e w_18 ⟨rfl, hb⟩
              have RXz := Lib.hid (RX.out.below hb RX.out.1)
              clear RX
              have RX := RXz
              clear RXz
              have RHz := Lib.hid (RH.out.below hb RH.out.1)
              clear RH
              have RH := RHz
              clear RHz
              have ROz := Lib.hid (RO.out.below hb RO.out.1)
              clear RO
              have RO := ROz
              clear ROz
              have RPz := Lib.hid (RP.out.below hb RP.out.1)
              clear RP
              have RP := RPz
              clear RPz
              have BN := Lib.hid (B0.out.trans (hb.mono B0.out.size))
              clear B0
              have B0 := BN
              clear BN
              clear hb
              go_wp2_with fail
              go_ret
              exact ⟨rfl, B0.out⟩

set_option maxRecDepth 100000 in
theorem lifted (os : Os) (started : os.Started) (H : Type) (enc : TypeId × Value → H) :
    ReturnsInHanded {} Try.checked os 6 .any (Rows.fnPartitionSpec.pre6 enc Try.prog Try.f6 Rows.fnPartitionRow.domain false) (Rows.fnPartitionSpec.post enc Try.prog Try.f6 false true false false) := by
  refine returnsInHanded_of_change (C := Try.checked) own started (by kernel_rfl) Try.func6
    (ChangeSpec.witness6 (enc := enc) (C := Try.checked) false ⟨#[], #[.slice none 0 0], []⟩ 8 (by kernel_rfl) (by kernel_rfl) (by kernel_rfl) (by kernel_rfl)) ?_
  intro W base args ds gs before hval0 hW hcnd _
  have hval : ∀ (j : Nat) t v, Try.f6.params[j]? = some t → args[j]? = some v → Value.okWide Try.prog W .any base t v := hval0
  have hW' := hW
  obtain ⟨p, q, hA0, hV, rfl, hfz, hnd⟩ := hW
  have hA : DataW.TrodAll enc Try.prog W 0 (fun _ => true) true Try.f6.params.toList args.toList ds p := hA0
  rw [Try.params6] at hA hval
  obtain ⟨v0, vs0, d0, ds0, p0, q0, hargs, rfl, rfl, h0, r0⟩ := trodAll_cons hA
  obtain ⟨rfl, rfl, rfl⟩ := trodAll_nil r0
  obtain rfl : args = #[v0] := by cases args; simp_all
  obtain ⟨rfl, rfl⟩ := trodVars_none hV
  obtain ⟨a0, len0, cap0, rfl⟩ := okWide_slice Try.underlying22 (hval 0 22 v0 rfl rfl)
  have k0 := h0
  have lt0 : ∀ x ∈ p0, x.block < W.heap.size := by obtain ⟨m, hm⟩ := k0; exact DataW.trod_lt m _ _ _ hm
  obtain ⟨z0, w0⟩ : ∃ zs, IsRow .u8 W a0 len0 cap0 zs := by
    obtain ⟨fuel, hf⟩ := h0
    rcases open_ints Try.underlying22 Try.underlying5 (by kernel_rfl) hf with ⟨hcs, _⟩ | ⟨x, l, c, zs, hcs, _, hl, hm, hz, _, hcell, hwz⟩
    · simp [Value.cells] at hcs
      obtain ⟨rfl, rfl, rfl⟩ := hcs
      exact ⟨[], .inl ⟨rfl, rfl, rfl, rfl⟩⟩
    · simp [Value.cells] at hcs
      obtain ⟨rfl, rfl, rfl⟩ := hcs
      exact ⟨zs, .inr ⟨_, rfl, hl, hm, by simpa using hz, hcell, hwz⟩⟩
  clear hA0 hval0
  refine (walk a0 len0 cap0 z0 W w0).mono fun e W' ⟨he, bel⟩ => ?_
  subst he
  exact ⟨_, rfl, _, _, _, [], _, [], hW', trodAll_mk1 (shut_bool Try.underlying4 _), (trodAll_cons_mk (Below.trod laidOut (by kernel_rfl) (of_decide_eq_true (by kernel_rfl)) k0 bel lt0) trodAll_mk0), rfl, bel.frame _, fun h => by cases h⟩

theorem closed : joinedFacts Try.prog 6 Try.f6 Rows.fnPartitionSpec Rows.fnPartitionRow = true := by
  unfold joinedFacts
  rw [head_enter, head_final, head_make]
  kernel_rfl

theorem over : Rows.fnPartitionRow.holds Try.pinned (OpenSpec.ofChange Rows.fnPartitionSpec) :=
  OpenClaim.holds_of_wide 6 Try.f6 rfl rfl rfl rfl rfl rfl rfl ⟨rfl, rfl, rfl, rfl, rfl⟩ rfl rfl rfl rfl rfl (by kernel_rfl) Try.func6 closed
    (of_decide_eq_true (by kernel_rfl)) (by unfold Func.isWrapper; first | (rw [if_pos (by decide +kernel)]; kernel_rfl) | (rw [if_neg (by decide +kernel)]; exact ⟨rfl, rfl⟩))
    (fun os started H enc _ => lifted os started H enc)

theorem proved : Rows.FnPartitionSaid := over
#print axioms proved
end Go.Proofs.Ytipdfmedbcafpaa.fnPartition
