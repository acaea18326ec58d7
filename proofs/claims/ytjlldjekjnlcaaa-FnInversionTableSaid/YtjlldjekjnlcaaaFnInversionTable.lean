/- FnInversionTable returns true at every input. No condition. -/
import Derived.Test.YtjlldjekjnlcaaaRows
import Derived.WalkKit
import Derived.ProofKit
import Derived.OpenShut
import Derived.ShutString
import Derived.ChangeOld
import Derived.Below
import Derived.SliceStrings
import Derived.Test.YtjlldjekjnlcaaaHead
import Derived.Test.YtjlldjekjnlcaaaRSumN
import Derived.Test.YtjlldjekjnlcaaaROrd
import Derived.Test.YtjlldjekjnlcaaaVInts
import Derived.Test.YtjlldjekjnlcaaaDrawFt
import Derived.Test.YtjlldjekjnlcaaaIIt
import Derived.Test.YtjlldjekjnlcaaaSFi
import Derived.Test.YtjlldjekjnlcaaaICnt
import Derived.Test.YtjlldjekjnlcaaaCode
namespace Go.Proofs.Ytjlldjekjnlcaaa.fnInversionTable
open Go.ChangeShapes Go.WideShapes Go.ChangeAt Go.RowKit
open Go.ChangeMaps (open_string shut_string)
set_option linter.unusedVariables false

theorem own : ownKnob Try.prog.godebug = none := by kernel_rfl
theorem laidOut : laidOutB Try.prog = true := by kernel_rfl

def IsRow (k : IntKind) (w : World) (a : Option Addr) (len cap : Nat) (zs : List Int) : Prop :=
  (a = none ∧ len = 0 ∧ cap = 0 ∧ zs = []) ∨
  ∃ x, a = some x ∧ len ≤ cap ∧ cap ≤ maxLen ∧ zs.length = cap ∧ (∀ i, i < zs.length → w.cell? (x.add i) = some (.int k (zs.getD i 0))) ∧ ∀ n ∈ zs, (Lit.int k n).wf = true

theorem code_of {w : World} {a : Option Addr} {len cap : Nat} {zs : List Int} (h : IsRow .u8 w a len cap zs) : Code0 w a len := by
  intro k hk
  rcases h with ⟨_, rfl, _⟩ | ⟨x, rfl, hlc, _, hz, hc, hw⟩
  · omega
  · have hkz : k < zs.length := by omega
    have hd : zs.getD k 0 = zs[k] := by simp [List.getD, hkz]
    have hm := hw zs[k] (List.getElem_mem hkz)
    have hcell := hc k hkz
    rw [hd] at hcell
    have hlt := World.block_lt_of_cell? w _ hcell
    have hbk := Go.ChangeShapes.block_add x k
    have hr := bounds_u8 hm
    exact ⟨x, zs[k], rfl, by omega, hcell, hr.1, hr.2⟩

theorem vbig_no (a : Option Addr) (len cap : Nat) (w : World) (h : len ≤ 65536) : Calls Try.prog 16 #[.slice a len cap] w fun e w' => e = .returned (.bool false) ∧ w' = w := by
  go_enter Try.func16, Try.ntmps16
  have hq : decide ((65536 : Int) < (len : Int)) = false := decide_eq_false (by omega)
  go_wp2
  go_ret
  exact ⟨by rw [← hq]; rfl, rfl⟩

set_option maxRecDepth 100000 in
set_option maxHeartbeats 40000000 in
theorem walk (a : Option Addr) (len cap : Nat) (z : List Int) (w : World) (w0 : IsRow .u8 w a len cap z) :
    Calls Try.prog 3 #[.slice a len cap] w fun e w' => e = .returned (.bool true) ∧ Below w.heap.size w w' := by
  have hlen : len ≤ maxLen := by
    rcases w0 with ⟨_, rfl, _⟩ | ⟨x, _, h1, h2, _⟩ <;> omega
  unfold maxLen at hlen
  have HCODE := Lib.hid (code_of w0)
  clear w0
  by_cases hbig : 65536 < len
  · clear HCODE
    go_enter Try.func3, Try.ntmps3
    go_wp2
    go_ret
    exact ⟨rfl, Below.refl _ _⟩
  · go_enter Try.func3, Try.ntmps3
    go_wp2_with fail
    refine (vbig_no a len cap _ (by omega)).mono ?_
    rintro e w0 ⟨rfl, rfl⟩
    have HLEN : Hid (len ≤ 65536) := Lib.hid (by omega)
    clear hlen hbig
    have B0 : Hid (Below w0.heap.size w0 w0) := Lib.hid (Below.refl _ _)
    have HCODE0 := HCODE
    have HCODE := Lib.hid (HCODE0.out.below B0.out)
    go_wp2_with fail
    refine (vAt_any a len cap 0 _ HCODE.out (by omega) (by have := HLEN.out; omega)).mono ?_
    rintro e w_1 ⟨⟨rz, h0, h1, rfl⟩, rfl⟩
    obtain ⟨r, rfl⟩ : ∃ n : Nat, rz = n := ⟨rz.toNat, by omega⟩
    obtain ⟨q, hq⟩ : ∃ n, n = r % 12 := ⟨_, rfl⟩
    have ql : q < 12 := by omega
    have qe : (r : Int) % 12 = (q : Int) := by omega
    have qt : Int.tmod (r : Int) 12 = (q : Int) := by rw [Int.tmod_eq_emod_of_nonneg (by omega)]; exact qe
    clear h0 h1 hq HCODE
    have hw1 : IntKind.i64.wrap (1 + (q : Int)) = ((q + 1 : Nat) : Int) := by rw [IntKind.wrap_i64]; omega
    have hq1 : (1 : Int) + (q : Int) = ((q + 1 : Nat) : Int) := by omega
    obtain ⟨n, hn⟩ : ∃ n, n = q + 1 := ⟨_, rfl⟩
    rw [← hn] at hw1 hq1
    have hn12 : n ≤ 12 := by omega
    clear hn
    have HCODE := Lib.hid (HCODE0.out.below B0.out)
    go_wp2_with fail
    refine (rOrder_any a len cap n _ HCODE.out (by have := HLEN.out; omega) (by omega)).mono ?_
    rintro e w_2 ⟨gRP, cRP, p, hpRP, rfl, hcRP, hrow, hb⟩
    have RP := Lib.hid hrow
    have hlRP : p.length = n := by rw [hpRP.length_eq, P.iota_length]
    have hnRP : p.length ≤ 1048576 := by omega
    have BN := Lib.hid (B0.out.trans (hb.mono B0.out.size))
    clear B0
    have B0 := BN
    clear BN
    clear hrow hb HCODE
    clear hw1 hq1 qe qt
    have hok : P.OkP p := P.OkP.of_perm hpRP (by omega)
    have hokL : OkL p := ⟨by omega, fun x hx => by have := hok.2.1 x hx; omega⟩
    obtain ⟨T, hT⟩ : ∃ T, T = Iv.itL p := ⟨_, rfl⟩
    have hTl : T.length = p.length := by rw [hT, Iv.itL_length]
    have hIT : Iv.itF p = (T, true) := by rw [Iv.itF_yes hok, hT]
    have hFT : Iv.fiF T = (p, true) := by rw [hT]; exact Iv.fi_it hok
    obtain ⟨D, hD⟩ : ∃ D : List Nat, D = (List.range p.length).map (P.later p) := ⟨_, rfl⟩
    have hTD : T = P.nats D := by rw [hT, hD]; unfold Iv.itL P.nats; rw [List.map_map]; rfl
    have hDl : D.length ≤ 64 := by rw [hD]; simp; omega
    have hDs : ∀ x ∈ D, x ≤ 64 := fun x hx => by
      rw [hD] at hx
      obtain ⟨i, _, rfl⟩ := List.mem_map.1 hx
      have := P.later_le p i; omega
    obtain ⟨s, hs⟩ : ∃ s, s = D.sum := ⟨_, rfl⟩
    have hsi : P.invs p = s := by
      have h1 := Iv.it_sum_all p
      have h2 : ∀ E : List Nat, (P.nats E).sum = ((E.sum : Nat) : Int) := fun E => by
        induction E with
        | nil => rfl
        | cons x E ih =>
          have e : P.nats (x :: E) = (x : Int) :: P.nats E := rfl
          rw [e, List.sum_cons, List.sum_cons, ih]; omega
      rw [← hT, hTD, h2, ← hs] at h1
      omega
    have HIT := Lib.hid (fun v W (h : FlatAt W v p.length (ints p)) => by have := (implIt_any v p W h hnRP).mono fun _ _ q => q.flat; rw [hIT] at this; exact this)
    have HFT := Lib.hid (fun v W (h : FlatAt W v T.length (ints T)) => by have := (implFi_any v T W h (by omega)).mono fun _ _ q => q.flat; rw [hFT] at this; exact this)
    have HCI := Lib.hid (fun v W (h : FlatAt W v p.length (ints p)) => by have := implCi_any v p W h hnRP; rw [Iv.ciF_yes hokL, hsi] at this; exact this)
    have HRS := Lib.hid (fun v W (h : FlatAt W v T.length (ints T)) => by have := rSumN_any D v W (by rw [← hTD]; exact h) hDl hDs; rw [← hs] at this; exact this)
    clear hok hokL hT hTl hIT hFT hD hTD hDl hDs hs hsi hpRP hlRP
    go_wp2_with fail
    refine (HIT.out _ _ (RP.out.flat hcRP)).mono ?_
    rintro e w_3 ⟨aRT, cRT, rfl, hf, hb⟩
    simp only at hf
    have hyRT := Lib.hid hf
    have RPz := Lib.hid (RP.out.below hb RP.out.1)
    clear RP
    have RP := RPz
    clear RPz
    have BN := Lib.hid (B0.out.trans (hb.mono B0.out.size))
    clear B0
    have B0 := BN
    clear BN
    have RT := hyRT
    clear hyRT hf hb HIT
    go_wp2_with fail
    refine (HFT.out _ _ RT.out).mono ?_
    rintro e w_4 ⟨aRK, cRK, rfl, hf, hb⟩
    simp only at hf
    have hyRK := Lib.hid hf
    have RTz := Lib.hid (RT.out.below hb)
    clear RT
    have RT := RTz
    clear RTz
    have RPz := Lib.hid (RP.out.below hb RP.out.1)
    clear RP
    have RP := RPz
    clear RPz
    have BN := Lib.hid (B0.out.trans (hb.mono B0.out.size))
    clear B0
    have B0 := BN
    clear BN
    have RK := hyRK
    clear hyRK hf hb HFT
    go_wp2_with fail
    refine (HCI.out _ _ (RP.out.flat hcRP)).mono ?_
    rintro e w_5 ⟨rfl, hb⟩
    have RTz := Lib.hid (RT.out.below hb)
    clear RT
    have RT := RTz
    clear RTz
    have RKz := Lib.hid (RK.out.below hb)
    clear RK
    have RK := RKz
    clear RKz
    have RPz := Lib.hid (RP.out.below hb RP.out.1)
    clear RP
    have RP := RPz
    clear RPz
    have BN := Lib.hid (B0.out.trans (hb.mono B0.out.size))
    clear B0
    have B0 := BN
    clear BN
    clear hb
    clear HCI
    go_wp2_with fail
    refine (vInts_yes _ _ p _ RK.out (RP.out.flat hcRP) hnRP).mono ?_
    rintro e w_6 ⟨rfl, hb⟩
    have RTz := Lib.hid (RT.out.below hb)
    clear RT
    have RT := RTz
    clear RTz
    have RKz := Lib.hid (RK.out.below hb)
    clear RK
    have RK := RKz
    clear RKz
    have RPz := Lib.hid (RP.out.below hb RP.out.1)
    clear RP
    have RP := RPz
    clear RPz
    have BN := Lib.hid (B0.out.trans (hb.mono B0.out.size))
    clear B0
    have B0 := BN
    clear BN
    clear hb
    go_wp2_with fail
    refine (HRS.out _ _ RT.out).mono ?_
    rintro e w_7 ⟨rfl, rfl⟩
    clear HRS
    clear RT RK RP
    have HCODE := Lib.hid (HCODE0.out.below B0.out)
    clear HCODE0
    go_wp2_with fail
    refine (drawFt_any a len cap _ HCODE.out).mono ?_
    rintro e w_8 ⟨gRX, cRX, X, hlRX, rfl, hcRX, hg, hrow, hb⟩
    have RX := Lib.hid hrow
    have hnRX : X.length ≤ 1048576 := by omega
    have BN := Lib.hid (B0.out.trans (hb.mono B0.out.size))
    clear B0
    have B0 := BN
    clear BN
    clear hrow hb hg HCODE
    obtain ⟨Y, okq, hY⟩ : ∃ x b, Iv.fiF X = (x, b) := ⟨_, _, rfl⟩
    have HXI := Lib.hid (fun v W (h : FlatAt W v X.length (ints X)) => by have := (implFi_any v X W h hnRX).mono fun _ _ q => q.flat; rw [hY] at this; exact this)
    have HXS := Lib.hid (fun v W (h : FlatAt W v X.length (ints X)) => by have := (specFi_any v X W h hnRX).mono fun _ _ q => q.flat; rw [hY] at this; exact this)
    have hy : Y.length ≤ 1048576 := by have := Iv.fiF_len X; rw [hY] at this; exact this
    clear hY
    go_wp2_with fail
    refine (HXI.out _ _ (RX.out.flat hcRX)).mono ?_
    rintro e w_9 ⟨aRY, cRY, rfl, hf, hb⟩
    simp only at hf
    have hyRY := Lib.hid hf
    have RXz := Lib.hid (RX.out.below hb RX.out.1)
    clear RX
    have RX := RXz
    clear RXz
    have BN := Lib.hid (B0.out.trans (hb.mono B0.out.size))
    clear B0
    have B0 := BN
    clear BN
    have RY := hyRY
    clear hyRY hf hb HXI
    go_wp2_with fail
    refine (HXS.out _ _ (RX.out.flat hcRX)).mono ?_
    rintro e w_10 ⟨aRZ, cRZ, rfl, hf, hb⟩
    simp only at hf
    have hyRZ := Lib.hid hf
    have RYz := Lib.hid (RY.out.below hb)
    clear RY
    have RY := RYz
    clear RYz
    have RXz := Lib.hid (RX.out.below hb RX.out.1)
    clear RX
    have RX := RXz
    clear RXz
    have BN := Lib.hid (B0.out.trans (hb.mono B0.out.size))
    clear B0
    have B0 := BN
    clear BN
    have RZ := hyRZ
    clear hyRZ hf hb HXS
    have hoo : (okq == okq) = true := by simp
    go_wp2_with fail
    refine (vInts_yes _ _ Y _ RY.out RZ.out hy).mono ?_
    rintro e w_11 ⟨rfl, hb⟩
    have RYz := Lib.hid (RY.out.below hb)
    clear RY
    have RY := RYz
    clear RYz
    have RZz := Lib.hid (RZ.out.below hb)
    clear RZ
    have RZ := RZz
    clear RZz
    have RXz := Lib.hid (RX.out.below hb RX.out.1)
    clear RX
    have RX := RXz
    clear RXz
    have BN := Lib.hid (B0.out.trans (hb.mono B0.out.size))
    clear B0
    have B0 := BN
    clear BN
    clear hb
    go_wp2_with fail
    go_ret
    exact ⟨rfl, B0.out⟩

set_option maxRecDepth 100000 in
theorem lifted (os : Os) (started : os.Started) (H : Type) (enc : TypeId × Value → H) :
    ReturnsInHanded {} Try.checked os 3 .any (Rows.fnInversionTableSpec.pre6 enc Try.prog Try.f3 Rows.fnInversionTableRow.domain false) (Rows.fnInversionTableSpec.post enc Try.prog Try.f3 false true false false) := by
  refine returnsInHanded_of_change (C := Try.checked) own started (by kernel_rfl) Try.func3
    (ChangeSpec.witness6 (enc := enc) (C := Try.checked) false ⟨#[], #[.slice none 0 0], []⟩ 8 (by kernel_rfl) (by kernel_rfl) (by kernel_rfl) (by kernel_rfl)) ?_
  intro W base args ds gs before hval0 hW hcnd _
  have hval : ∀ (j : Nat) t v, Try.f3.params[j]? = some t → args[j]? = some v → Value.okWide Try.prog W .any base t v := hval0
  have hW' := hW
  obtain ⟨p, q, hA0, hV, rfl, hfz, hnd⟩ := hW
  have hA : DataW.TrodAll enc Try.prog W 0 (fun _ => true) true Try.f3.params.toList args.toList ds p := hA0
  rw [Try.params3] at hA hval
  obtain ⟨v0, vs0, d0, ds0, p0, q0, hargs, rfl, rfl, h0, r0⟩ := trodAll_cons hA
  obtain ⟨rfl, rfl, rfl⟩ := trodAll_nil r0
  obtain rfl : args = #[v0] := by cases args; simp_all
  obtain ⟨rfl, rfl⟩ := trodVars_none hV
  obtain ⟨a0, len0, cap0, rfl⟩ := okWide_slice Try.underlying22 (hval 0 22 v0 rfl rfl)
  have k0 := h0
  have lt0 : ∀ x ∈ p0, x.block < W.heap.size := by obtain ⟨m, hm⟩ := k0; exact DataW.trod_lt m _ _ _ hm
  obtain ⟨z0, w0⟩ : ∃ zs, IsRow .u8 W a0 len0 cap0 zs := by
    obtain ⟨fuel, hf⟩ := h0
    rcases open_ints Try.underlying22 Try.underlying5 (by kernel_rfl) hf with ⟨hcs, _⟩ | ⟨x, l, c, zs, hcs, _, hl, hm, hz, _, hcell, hwz⟩
    · simp [Value.cells] at hcs
      obtain ⟨rfl, rfl, rfl⟩ := hcs
      exact ⟨[], .inl ⟨rfl, rfl, rfl, rfl⟩⟩
    · simp [Value.cells] at hcs
      obtain ⟨rfl, rfl, rfl⟩ := hcs
      exact ⟨zs, .inr ⟨_, rfl, hl, hm, by simpa using hz, hcell, hwz⟩⟩
  clear hA0 hval0
  refine (walk a0 len0 cap0 z0 W w0).mono fun e W' ⟨he, bel⟩ => ?_
  subst he
  exact ⟨_, rfl, _, _, _, [], _, [], hW', trodAll_mk1 (shut_bool Try.underlying4 _), (trodAll_cons_mk (Below.trod laidOut (by kernel_rfl) (of_decide_eq_true (by kernel_rfl)) k0 bel lt0) trodAll_mk0), rfl, bel.frame _, fun h => by cases h⟩

theorem closed : joinedFacts Try.prog 3 Try.f3 Rows.fnInversionTableSpec Rows.fnInversionTableRow = true := by
  unfold joinedFacts
  rw [head_enter, head_final, head_make]
  kernel_rfl

theorem over : Rows.fnInversionTableRow.holds Try.pinned (OpenSpec.ofChange Rows.fnInversionTableSpec) :=
  OpenClaim.holds_of_wide 3 Try.f3 rfl rfl rfl rfl rfl rfl rfl ⟨rfl, rfl, rfl, rfl, rfl⟩ rfl rfl rfl rfl rfl (by kernel_rfl) Try.func3 closed
    (of_decide_eq_true (by kernel_rfl)) (by unfold Func.isWrapper; first | (rw [if_pos (by decide +kernel)]; kernel_rfl) | (rw [if_neg (by decide +kernel)]; exact ⟨rfl, rfl⟩))
    (fun os started H enc _ => lifted os started H enc)

theorem proved : Rows.FnInversionTableSaid := over
#print axioms proved
end Go.Proofs.Ytjlldjekjnlcaaa.fnInversionTable
