/- FnDistances returns true at every input. No condition. -/
import Derived.Test.YtjlldjekjnlcaaaRows
import Derived.WalkKit
import Derived.ProofKit
import Derived.OpenShut
import Derived.ShutString
import Derived.ChangeOld
import Derived.Below
import Derived.SliceStrings
import Derived.Test.YtjlldjekjnlcaaaHead
import Derived.Test.YtjlldjekjnlcaaaVIntsE
import Derived.Test.YtjlldjekjnlcaaaROrd
import Derived.Test.YtjlldjekjnlcaaaVCut
import Derived.Test.YtjlldjekjnlcaaaIRnk
import Derived.Test.YtjlldjekjnlcaaaISf
import Derived.Test.YtjlldjekjnlcaaaDisP
import Derived.Test.YtjlldjekjnlcaaaSnoc
import Derived.Test.YtjlldjekjnlcaaaCode
namespace Go.Proofs.Ytjlldjekjnlcaaa.fnDistances
open Go.ChangeShapes Go.WideShapes Go.ChangeAt Go.RowKit
open Go.ChangeMaps (open_string shut_string)
set_option linter.unusedVariables false

theorem own : ownKnob Try.prog.godebug = none := by kernel_rfl
theorem laidOut : laidOutB Try.prog = true := by kernel_rfl

def IsRow (k : IntKind) (w : World) (a : Option Addr) (len cap : Nat) (zs : List Int) : Prop :=
  (a = none ∧ len = 0 ∧ cap = 0 ∧ zs = []) ∨
  ∃ x, a = some x ∧ len ≤ cap ∧ cap ≤ maxLen ∧ zs.length = cap ∧ (∀ i, i < zs.length → w.cell? (x.add i) = some (.int k (zs.getD i 0))) ∧ ∀ n ∈ zs, (Lit.int k n).wf = true

attribute [local go_sem ↓ high] builtin_append_held

theorem code_of {w : World} {a : Option Addr} {len cap : Nat} {zs : List Int} (h : IsRow .u8 w a len cap zs) : Code0 w a len := by
  intro k hk
  rcases h with ⟨_, rfl, _⟩ | ⟨x, rfl, hlc, _, hz, hc, hw⟩
  · omega
  · have hkz : k < zs.length := by omega
    have hd : zs.getD k 0 = zs[k] := by simp [List.getD, hkz]
    have hm := hw zs[k] (List.getElem_mem hkz)
    have hcell := hc k hkz
    rw [hd] at hcell
    have hlt := World.block_lt_of_cell? w _ hcell
    have hbk := Go.ChangeShapes.block_add x k
    have hr := bounds_u8 hm
    exact ⟨x, zs[k], rfl, by omega, hcell, hr.1, hr.2⟩

theorem vbig_no (a : Option Addr) (len cap : Nat) (w : World) (h : len ≤ 65536) : Calls Try.prog 16 #[.slice a len cap] w fun e w' => e = .returned (.bool false) ∧ w' = w := by
  go_enter Try.func16, Try.ntmps16
  have hq : decide ((65536 : Int) < (len : Int)) = false := decide_eq_false (by omega)
  go_wp2
  go_ret
  exact ⟨by rw [← hq]; rfl, rfl⟩

set_option maxRecDepth 100000 in
set_option maxHeartbeats 40000000 in
theorem walk (a : Option Addr) (len cap : Nat) (z : List Int) (w : World) (w0 : IsRow .u8 w a len cap z) :
    Calls Try.prog 4 #[.slice a len cap] w fun e w' => e = .returned (.bool true) ∧ Below w.heap.size w w' := by
  have hlen : len ≤ maxLen := by
    rcases w0 with ⟨_, rfl, _⟩ | ⟨x, _, h1, h2, _⟩ <;> omega
  unfold maxLen at hlen
  have HCODE := Lib.hid (code_of w0)
  have HNN : Hid ((a = none ∧ len = 0 ∧ cap = 0) ∨ (∃ x, a = some x ∧ len ≤ cap)) := Lib.hid (by
    rcases w0 with ⟨h1, h2, h3, _⟩ | ⟨x, h1, h2, _⟩
    · exact .inl ⟨h1, h2, h3⟩
    · exact .inr ⟨x, h1, h2⟩)
  clear w0
  by_cases hbig : 65536 < len
  · clear HCODE
    go_enter Try.func4, Try.ntmps4
    go_wp2
    go_ret
    exact ⟨rfl, Below.refl _ _⟩
  · go_enter Try.func4, Try.ntmps4
    go_wp2_with fail
    refine (vbig_no a len cap _ (by omega)).mono ?_
    rintro e w0 ⟨rfl, rfl⟩
    have HLEN : Hid (len ≤ 65536) := Lib.hid (by omega)
    clear hlen hbig
    have B0 : Hid (Below w0.heap.size w0 w0) := Lib.hid (Below.refl _ _)
    have HCODE0 := HCODE
    have HCODE := Lib.hid (HCODE0.out.below B0.out)
    go_wp2_with fail
    refine (vAt_any a len cap 0 _ HCODE.out (by omega) (by have := HLEN.out; omega)).mono ?_
    rintro e w_1 ⟨⟨rz, h0, h1, rfl⟩, rfl⟩
    obtain ⟨r, rfl⟩ : ∃ n : Nat, rz = n := ⟨rz.toNat, by omega⟩
    obtain ⟨q, hq⟩ : ∃ n, n = r % 9 := ⟨_, rfl⟩
    have ql : q < 9 := by omega
    have qe : (r : Int) % 9 = (q : Int) := by omega
    have qt : Int.tmod (r : Int) 9 = (q : Int) := by rw [Int.tmod_eq_emod_of_nonneg (by omega)]; exact qe
    clear h0 h1 hq HCODE
    have hw1 : IntKind.i64.wrap (1 + (q : Int)) = ((q + 1 : Nat) : Int) := by rw [IntKind.wrap_i64]; omega
    have hq1 : (1 : Int) + (q : Int) = ((q + 1 : Nat) : Int) := by omega
    obtain ⟨n, hn⟩ : ∃ n, n = q + 1 := ⟨_, rfl⟩
    rw [← hn] at hw1 hq1
    have hn9 : n ≤ 9 := by omega
    clear hn
    have HCODE := Lib.hid (HCODE0.out.below B0.out)
    go_wp2_with fail
    refine (rOrder_any a len cap n _ HCODE.out (by have := HLEN.out; omega) (by omega)).mono ?_
    rintro e w_2 ⟨gRP, cRP, p, hpRP, rfl, hcRP, hrow, hb⟩
    have RP := Lib.hid hrow
    have hlRP : p.length = n := by rw [hpRP.length_eq, P.iota_length]
    have hnRP : p.length ≤ 1048576 := by omega
    have BN := Lib.hid (B0.out.trans (hb.mono B0.out.size))
    clear B0
    have B0 := BN
    clear BN
    clear hrow hb HCODE
    clear hw1 hq1 qe qt
    have HLR := Lib.hid hlRP
    clear hlRP
    have HCODE := Lib.hid (HCODE0.out.below B0.out)
    go_wp2_with fail
    refine (vCut_any a len cap 1 _ HCODE.out HNN.out (by have := HLEN.out; omega) (by omega)).mono ?_
    rintro e w_3 ⟨gK1, cK1, nK1, hnK1, rfl, hcK1, hcode, hb⟩
    have HK := Lib.hid hcode
    have HKL : Hid (nK1 ≤ 65537) := Lib.hid (by have := HLEN.out; omega)
    have RPz := Lib.hid (RP.out.below hb RP.out.1)
    clear RP
    have RP := RPz
    clear RPz
    have BN := Lib.hid (B0.out.trans (hb.mono B0.out.size))
    clear B0
    have B0 := BN
    clear BN
    clear hb hcode HCODE
    go_wp2_with fail
    refine (rOrder_any (some ⟨gK1, 0, none⟩) nK1 cK1 n _ HK.out (by have := HKL.out; omega) (by omega)).mono ?_
    rintro e w_4 ⟨gRQ, cRQ, qq, hpRQ, rfl, hcRQ, hrow, hb⟩
    have RQ := Lib.hid hrow
    have hlRQ : qq.length = n := by rw [hpRQ.length_eq, P.iota_length]
    have hnRQ : qq.length ≤ 1048576 := by omega
    have RPz := Lib.hid (RP.out.below hb RP.out.1)
    clear RP
    have RP := RPz
    clear RPz
    have BN := Lib.hid (B0.out.trans (hb.mono B0.out.size))
    clear B0
    have B0 := BN
    clear BN
    clear hrow hb HK HKL hnK1 hcK1
    have HLQ := Lib.hid hlRQ
    clear hlRQ
    have HCODE := Lib.hid (HCODE0.out.below B0.out)
    go_wp2_with fail
    refine (vCut_any a len cap 2 _ HCODE.out HNN.out (by have := HLEN.out; omega) (by omega)).mono ?_
    rintro e w_5 ⟨gK2, cK2, nK2, hnK2, rfl, hcK2, hcode, hb⟩
    have HK := Lib.hid hcode
    have HKL : Hid (nK2 ≤ 65537) := Lib.hid (by have := HLEN.out; omega)
    have RPz := Lib.hid (RP.out.below hb RP.out.1)
    clear RP
    have RP := RPz
    clear RPz
    have RQz := Lib.hid (RQ.out.below hb RQ.out.1)
    clear RQ
    have RQ := RQz
    clear RQz
    have BN := Lib.hid (B0.out.trans (hb.mono B0.out.size))
    clear B0
    have B0 := BN
    clear BN
    clear hb hcode HCODE
    go_wp2_with fail
    refine (rOrder_any (some ⟨gK2, 0, none⟩) nK2 cK2 n _ HK.out (by have := HKL.out; omega) (by omega)).mono ?_
    rintro e w_6 ⟨gRR, cRR, rr, hpRR, rfl, hcRR, hrow, hb⟩
    have RR := Lib.hid hrow
    have hlRR : rr.length = n := by rw [hpRR.length_eq, P.iota_length]
    have hnRR : rr.length ≤ 1048576 := by omega
    have RPz := Lib.hid (RP.out.below hb RP.out.1)
    clear RP
    have RP := RPz
    clear RPz
    have RQz := Lib.hid (RQ.out.below hb RQ.out.1)
    clear RQ
    have RQ := RQz
    clear RQz
    have BN := Lib.hid (B0.out.trans (hb.mono B0.out.size))
    clear B0
    have B0 := BN
    clear BN
    clear hrow hb HK HKL hnK2 hcK2
    have hlRP := HLR.out
    have hlRQ := HLQ.out
    have hop : P.OkP p := P.OkP.of_perm hpRP (by omega)
    have hoq : P.OkP qq := P.OkP.of_perm hpRQ (by omega)
    have hor : P.OkP rr := P.OkP.of_perm hpRR (by omega)
    have bpq : Iv.OkB p qq := ⟨hop, hoq, by omega⟩
    have bqr : Iv.OkB qq rr := ⟨hoq, hor, by omega⟩
    have bpr : Iv.OkB p rr := ⟨hop, hor, by omega⟩
    have bqp : Iv.OkB qq p := ⟨hoq, hop, by omega⟩
    obtain ⟨A, hA⟩ : ∃ A, A = Iv.kd p qq := ⟨_, rfl⟩
    obtain ⟨B, hB⟩ : ∃ A, A = Iv.kd qq rr := ⟨_, rfl⟩
    obtain ⟨C, hC⟩ : ∃ A, A = Iv.kd p rr := ⟨_, rfl⟩
    obtain ⟨F, hF⟩ : ∃ A, A = Iv.ff p qq := ⟨_, rfl⟩
    have tri : C ≤ A + B := by rw [hA, hB, hC]; exact Iv.kd_tri (by omega) (by omega)
    have lo : A ≤ F := by rw [hA, hF]; exact Iv.kd_foot bpq
    have hi : F ≤ 2 * A := by rw [hA, hF]; exact Iv.ff_twice bpq
    have zer : A = 0 ↔ p = qq := by rw [hA]; exact Iv.kd_zero bpq
    have hA4 : A ≤ 4096 := by rw [hA]; exact Iv.kd_le bpq
    have hB4 : B ≤ 4096 := by rw [hB]; exact Iv.kd_le bqr
    have hC4 : C ≤ 4096 := by rw [hC]; exact Iv.kd_le bpr
    have hF4 : F ≤ 4096 := by rw [hF]; exact Iv.ff_le bpq
    have H1 := Lib.hid (fun v v' W (h : FlatAt W v p.length (ints p)) (h' : FlatAt W v' qq.length (ints qq)) => by have := implKd_any v p v' qq W h hnRP h' hnRQ; rw [Iv.kdF_yes bpq, ← hA] at this; exact this)
    have H2 := Lib.hid (fun v v' W (h : FlatAt W v qq.length (ints qq)) (h' : FlatAt W v' rr.length (ints rr)) => by have := implKd_any v qq v' rr W h hnRQ h' hnRR; rw [Iv.kdF_yes bqr, ← hB] at this; exact this)
    have H3 := Lib.hid (fun v v' W (h : FlatAt W v p.length (ints p)) (h' : FlatAt W v' rr.length (ints rr)) => by have := implKd_any v p v' rr W h hnRP h' hnRR; rw [Iv.kdF_yes bpr, ← hC] at this; exact this)
    have H4 := Lib.hid (fun v v' W (h : FlatAt W v qq.length (ints qq)) (h' : FlatAt W v' p.length (ints p)) => by have := implKd_any v qq v' p W h hnRQ h' hnRP; rw [Iv.kdF_yes bqp, Iv.kd_symm, ← hA] at this; exact this)
    have H5 := Lib.hid (fun v v' W (h : FlatAt W v p.length (ints p)) (h' : FlatAt W v' qq.length (ints qq)) => by have := implSf_any v p v' qq W h hnRP h' hnRQ; rw [Iv.sfF_yes bpq, ← hF] at this; exact this)
    have H6 := Lib.hid (fun v v' W (h : FlatAt W v p.length (ints p)) (h' : FlatAt W v' qq.length (ints qq)) => vInts_eq v v' p qq W h h' hnRP (by omega))
    obtain ⟨LX, hX⟩ : ∃ z, z = qq ++ [(n : Int)] := ⟨_, rfl⟩
    have hXl : LX.length = n + 1 := by rw [hX]; simp; omega
    have HX := Lib.hid hX
    have H7 := Lib.hid (fun v v' W (h : FlatAt W v p.length (ints p)) (h' : FlatAt W v' LX.length (ints LX)) => by have := implKd_any v p v' LX W h hnRP h' (by omega); rw [Iv.kdF_no (fun hh => by have := hh.2.2; omega)] at this; exact this)
    obtain ⟨Q, hQ⟩ : ∃ Q : Bool, Q = decide (p = qq) := ⟨_, rfl⟩
    rw [← hQ] at H6
    have hAQ : decide (A = 0) = Q := by rw [hQ]; exact decide_eq_decide.2 zer
    have HQQ := Lib.hid hAQ
    have hnq : qq.length ≤ 9 := by omega
    have HXL := Lib.hid hXl
    clear hop hoq hor bpq bqr bpr bqp hA hB hC hF zer hX hXl hQ hAQ hpRP hpRQ hpRR hlRP hlRQ hlRR HLR HLQ HCODE0 HNN
    go_wp2_with fail
    refine (H1.out _ _ _ (RP.out.flat hcRP) (RQ.out.flat hcRQ)).mono ?_
    rintro e w_7 ⟨rfl, hb⟩
    have RPz := Lib.hid (RP.out.below hb RP.out.1)
    clear RP
    have RP := RPz
    clear RPz
    have RQz := Lib.hid (RQ.out.below hb RQ.out.1)
    clear RQ
    have RQ := RQz
    clear RQz
    have RRz := Lib.hid (RR.out.below hb RR.out.1)
    clear RR
    have RR := RRz
    clear RRz
    have BN := Lib.hid (B0.out.trans (hb.mono B0.out.size))
    clear B0
    have B0 := BN
    clear BN
    clear hb
    clear H1
    go_wp2_with fail
    refine (H2.out _ _ _ (RQ.out.flat hcRQ) (RR.out.flat hcRR)).mono ?_
    rintro e w_8 ⟨rfl, hb⟩
    have RPz := Lib.hid (RP.out.below hb RP.out.1)
    clear RP
    have RP := RPz
    clear RPz
    have RQz := Lib.hid (RQ.out.below hb RQ.out.1)
    clear RQ
    have RQ := RQz
    clear RQz
    have RRz := Lib.hid (RR.out.below hb RR.out.1)
    clear RR
    have RR := RRz
    clear RRz
    have BN := Lib.hid (B0.out.trans (hb.mono B0.out.size))
    clear B0
    have B0 := BN
    clear BN
    clear hb
    clear H2
    go_wp2_with fail
    refine (H3.out _ _ _ (RP.out.flat hcRP) (RR.out.flat hcRR)).mono ?_
    rintro e w_9 ⟨rfl, hb⟩
    have RPz := Lib.hid (RP.out.below hb RP.out.1)
    clear RP
    have RP := RPz
    clear RPz
    have RQz := Lib.hid (RQ.out.below hb RQ.out.1)
    clear RQ
    have RQ := RQz
    clear RQz
    have RRz := Lib.hid (RR.out.below hb RR.out.1)
    clear RR
    have RR := RRz
    clear RRz
    have BN := Lib.hid (B0.out.trans (hb.mono B0.out.size))
    clear B0
    have B0 := BN
    clear BN
    clear hb
    clear H3
    go_wp2_with fail
    refine (H4.out _ _ _ (RQ.out.flat hcRQ) (RP.out.flat hcRP)).mono ?_
    rintro e w_10 ⟨rfl, hb⟩
    have RPz := Lib.hid (RP.out.below hb RP.out.1)
    clear RP
    have RP := RPz
    clear RPz
    have RQz := Lib.hid (RQ.out.below hb RQ.out.1)
    clear RQ
    have RQ := RQz
    clear RQz
    have RRz := Lib.hid (RR.out.below hb RR.out.1)
    clear RR
    have RR := RRz
    clear RRz
    have BN := Lib.hid (B0.out.trans (hb.mono B0.out.size))
    clear B0
    have B0 := BN
    clear BN
    clear hb
    clear H4
    go_wp2_with fail
    refine (H5.out _ _ _ (RP.out.flat hcRP) (RQ.out.flat hcRQ)).mono ?_
    rintro e w_11 ⟨rfl, hb⟩
    have RPz := Lib.hid (RP.out.below hb RP.out.1)
    clear RP
    have RP := RPz
    clear RPz
    have RQz := Lib.hid (RQ.out.below hb RQ.out.1)
    clear RQ
    have RQ := RQz
    clear RQz
    have RRz := Lib.hid (RR.out.below hb RR.out.1)
    clear RR
    have RR := RRz
    clear RRz
    have BN := Lib.hid (B0.out.trans (hb.mono B0.out.size))
    clear B0
    have B0 := BN
    clear BN
    clear hb
    clear H5
    clear RR
    have t1 : ¬ (A : Int) + (B : Int) < (C : Int) := by omega
    have t2 : ¬ (F : Int) < (A : Int) := by omega
    have t3 : ¬ 2 * (A : Int) < (F : Int) := by omega
    have d1 : decide ((A : Int) + (B : Int) < (C : Int)) = false := decide_eq_false t1
    have d2 : decide (F < A) = false := decide_eq_false (by omega)
    have d3 : decide (2 * (A : Int) < (F : Int)) = false := decide_eq_false t3
    have x1 : IntKind.i64.wrap ((A : Int) + (B : Int)) = (A : Int) + (B : Int) := by rw [IntKind.wrap_i64]; omega
    have x2 : IntKind.i64.wrap (2 * (A : Int)) = 2 * (A : Int) := by rw [IntKind.wrap_i64]; omega
    have hAq2 : ((A : Int) == 0) = Q := by rw [← HQQ.out]; by_cases h : A = 0 <;> simp [h]
    have hqq : (Q != Q) = false := by cases Q <;> rfl
    have hqq2 : (!Q == Q) = false := by cases Q <;> rfl
    have H6K := Lib.hid (H6.out _ _ _ (RP.out.flat hcRP) (RQ.out.flat hcRQ))
    clear H6
    go_upto_region 10 with fail
    try dsimp only [List.append]
    go_wp2_with fail
    refine (H6K.out).mono ?_
    rintro e w_12 ⟨rfl, hb⟩
    clear H6K
    have RPz := Lib.hid (RP.out.below hb RP.out.1)
    clear RP
    have RP := RPz
    clear RPz
    have RQz := Lib.hid (RQ.out.below hb RQ.out.1)
    clear RQ
    have RQ := RQz
    clear RQz
    have BN := Lib.hid (B0.out.trans (hb.mono B0.out.size))
    clear B0
    have B0 := BN
    clear BN
    clear hb
    obtain ⟨g1X, c1X, w1X, gRX, cRX, w_13, hrun1, hrun2, hrow, hcRX, hb⟩ := snoc_runs gRQ cRQ qq (n : Int) w_12 RQ.out (by omega)
    rw [← HX.out] at hrun2 hrow hcRX
    have hyX := Lib.hid hrow
    have RPz := Lib.hid (RP.out.below hb RP.out.1)
    clear RP
    have RP := RPz
    clear RPz
    have RQz := Lib.hid (RQ.out.below hb RQ.out.1)
    clear RQ
    have RQ := RQz
    clear RQz
    have BN := Lib.hid (B0.out.trans (hb.mono B0.out.size))
    clear B0
    have B0 := BN
    clear BN
    have RX := hyX
    clear hyX hrow hb
    go_wp2_with fail
    refine (H7.out _ _ _ (RP.out.flat hcRP) (RX.out.flat hcRX)).mono ?_
    rintro e w_14 ⟨rfl, hb⟩
    have RPz := Lib.hid (RP.out.below hb RP.out.1)
    clear RP
    have RP := RPz
    clear RPz
    have RQz := Lib.hid (RQ.out.below hb RQ.out.1)
    clear RQ
    have RQ := RQz
    clear RQz
    have RXz := Lib.hid (RX.out.below hb RX.out.1)
    clear RX
    have RX := RXz
    clear RXz
    have BN := Lib.hid (B0.out.trans (hb.mono B0.out.size))
    clear B0
    have B0 := BN
    clear BN
    clear hb
    clear hrun1 hrun2 H7
    go_wp2_with fail
    go_ret
    exact ⟨rfl, B0.out⟩

set_option maxRecDepth 100000 in
theorem lifted (os : Os) (started : os.Started) (H : Type) (enc : TypeId × Value → H) :
    ReturnsInHanded {} Try.checked os 4 .any (Rows.fnDistancesSpec.pre6 enc Try.prog Try.f4 Rows.fnDistancesRow.domain false) (Rows.fnDistancesSpec.post enc Try.prog Try.f4 false true false false) := by
  refine returnsInHanded_of_change (C := Try.checked) own started (by kernel_rfl) Try.func4
    (ChangeSpec.witness6 (enc := enc) (C := Try.checked) false ⟨#[], #[.slice none 0 0], []⟩ 8 (by kernel_rfl) (by kernel_rfl) (by kernel_rfl) (by kernel_rfl)) ?_
  intro W base args ds gs before hval0 hW hcnd _
  have hval : ∀ (j : Nat) t v, Try.f4.params[j]? = some t → args[j]? = some v → Value.okWide Try.prog W .any base t v := hval0
  have hW' := hW
  obtain ⟨p, q, hA0, hV, rfl, hfz, hnd⟩ := hW
  have hA : DataW.TrodAll enc Try.prog W 0 (fun _ => true) true Try.f4.params.toList args.toList ds p := hA0
  rw [Try.params4] at hA hval
  obtain ⟨v0, vs0, d0, ds0, p0, q0, hargs, rfl, rfl, h0, r0⟩ := trodAll_cons hA
  obtain ⟨rfl, rfl, rfl⟩ := trodAll_nil r0
  obtain rfl : args = #[v0] := by cases args; simp_all
  obtain ⟨rfl, rfl⟩ := trodVars_none hV
  obtain ⟨a0, len0, cap0, rfl⟩ := okWide_slice Try.underlying22 (hval 0 22 v0 rfl rfl)
  have k0 := h0
  have lt0 : ∀ x ∈ p0, x.block < W.heap.size := by obtain ⟨m, hm⟩ := k0; exact DataW.trod_lt m _ _ _ hm
  obtain ⟨z0, w0⟩ : ∃ zs, IsRow .u8 W a0 len0 cap0 zs := by
    obtain ⟨fuel, hf⟩ := h0
    rcases open_ints Try.underlying22 Try.underlying5 (by kernel_rfl) hf with ⟨hcs, _⟩ | ⟨x, l, c, zs, hcs, _, hl, hm, hz, _, hcell, hwz⟩
    · simp [Value.cells] at hcs
      obtain ⟨rfl, rfl, rfl⟩ := hcs
      exact ⟨[], .inl ⟨rfl, rfl, rfl, rfl⟩⟩
    · simp [Value.cells] at hcs
      obtain ⟨rfl, rfl, rfl⟩ := hcs
      exact ⟨zs, .inr ⟨_, rfl, hl, hm, by simpa using hz, hcell, hwz⟩⟩
  clear hA0 hval0
  refine (walk a0 len0 cap0 z0 W w0).mono fun e W' ⟨he, bel⟩ => ?_
  subst he
  exact ⟨_, rfl, _, _, _, [], _, [], hW', trodAll_mk1 (shut_bool Try.underlying4 _), (trodAll_cons_mk (Below.trod laidOut (by kernel_rfl) (of_decide_eq_true (by kernel_rfl)) k0 bel lt0) trodAll_mk0), rfl, bel.frame _, fun h => by cases h⟩

theorem closed : joinedFacts Try.prog 4 Try.f4 Rows.fnDistancesSpec Rows.fnDistancesRow = true := by
  unfold joinedFacts
  rw [head_enter, head_final, head_make]
  kernel_rfl

theorem over : Rows.fnDistancesRow.holds Try.pinned (OpenSpec.ofChange Rows.fnDistancesSpec) :=
  OpenClaim.holds_of_wide 4 Try.f4 rfl rfl rfl rfl rfl rfl rfl ⟨rfl, rfl, rfl, rfl, rfl⟩ rfl rfl rfl rfl rfl (by kernel_rfl) Try.func4 closed
    (of_decide_eq_true (by kernel_rfl)) (by unfold Func.isWrapper; first | (rw [if_pos (by decide +kernel)]; kernel_rfl) | (rw [if_neg (by decide +kernel)]; exact ⟨rfl, rfl⟩))
    (fun os started H enc _ => lifted os started H enc)

theorem proved : Rows.FnDistancesSaid := over
#print axioms proved
end Go.Proofs.Ytjlldjekjnlcaaa.fnDistances
