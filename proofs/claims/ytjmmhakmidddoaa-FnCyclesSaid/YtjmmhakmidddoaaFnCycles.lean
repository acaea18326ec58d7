/- FnCycles returns true at every input. No condition. -/
import Derived.Test.YtjmmhakmidddoaaRows
import Derived.WalkKit
import Derived.ProofKit
import Derived.OpenShut
import Derived.ShutString
import Derived.ChangeOld
import Derived.Below
import Derived.SliceStrings
import Derived.Test.YtjmmhakmidddoaaHead
import Derived.Test.YtjmmhakmidddoaaICycF
import Derived.Test.YtjmmhakmidddoaaSCyc
import Derived.Test.YtjmmhakmidddoaaCycP
import Derived.Test.YtjmmhakmidddoaaISign
import Derived.Test.YtjmmhakmidddoaaVInts
import Derived.Test.YtjmmhakmidddoaaDrawPC
import Derived.Test.YtjmmhakmidddoaaCode
namespace Go.Proofs.Ytjmmhakmidddoaa.fnCycles
open Go.ChangeShapes Go.WideShapes Go.ChangeAt Go.RowKit
open Go.ChangeMaps (open_string shut_string)
set_option linter.unusedVariables false

theorem own : ownKnob Try.prog.godebug = none := by kernel_rfl
theorem laidOut : laidOutB Try.prog = true := by kernel_rfl

def IsRow (k : IntKind) (w : World) (a : Option Addr) (len cap : Nat) (zs : List Int) : Prop :=
  (a = none ∧ len = 0 ∧ cap = 0 ∧ zs = []) ∨
  ∃ x, a = some x ∧ len ≤ cap ∧ cap ≤ maxLen ∧ zs.length = cap ∧ (∀ i, i < zs.length → w.cell? (x.add i) = some (.int k (zs.getD i 0))) ∧ ∀ n ∈ zs, (Lit.int k n).wf = true

theorem code_of {w : World} {a : Option Addr} {len cap : Nat} {zs : List Int} (h : IsRow .u8 w a len cap zs) : Code0 w a len := by
  intro k hk
  rcases h with ⟨_, rfl, _⟩ | ⟨x, rfl, hlc, _, hz, hc, hw⟩
  · omega
  · have hkz : k < zs.length := by omega
    have hd : zs.getD k 0 = zs[k] := by simp [List.getD, hkz]
    have hm := hw zs[k] (List.getElem_mem hkz)
    have hcell := hc k hkz
    rw [hd] at hcell
    have hlt := World.block_lt_of_cell? w _ hcell
    have hbk := Go.ChangeShapes.block_add x k
    have hr := bounds_u8 hm
    exact ⟨x, zs[k], rfl, by omega, hcell, hr.1, hr.2⟩

theorem vbig_no (a : Option Addr) (len cap : Nat) (w : World) (h : len ≤ 65536) : Calls Try.prog 17 #[.slice a len cap] w fun e w' => e = .returned (.bool false) ∧ w' = w := by
  go_enter Try.func17, Try.ntmps17
  have hq : decide ((65536 : Int) < (len : Int)) = false := decide_eq_false (by omega)
  go_wp2
  go_ret
  exact ⟨by rw [← hq]; rfl, rfl⟩

set_option maxRecDepth 100000 in
set_option maxHeartbeats 40000000 in
theorem walk (a : Option Addr) (len cap : Nat) (z : List Int) (w : World) (w0 : IsRow .u8 w a len cap z) :
    Calls Try.prog 3 #[.slice a len cap] w fun e w' => e = .returned (.bool true) ∧ Below w.heap.size w w' := by
  have hlen : len ≤ maxLen := by
    rcases w0 with ⟨_, rfl, _⟩ | ⟨x, _, h1, h2, _⟩ <;> omega
  unfold maxLen at hlen
  have HCODE := Lib.hid (code_of w0)
  clear w0
  by_cases hbig : 65536 < len
  · clear HCODE
    go_enter Try.func3, Try.ntmps3
    go_wp2
    go_ret
    exact ⟨rfl, Below.refl _ _⟩
  · go_enter Try.func3, Try.ntmps3
    go_wp2_with fail
    refine (vbig_no a len cap _ (by omega)).mono ?_
    rintro e w0 ⟨rfl, rfl⟩
    clear hlen hbig
    have B0 : Hid (Below w0.heap.size w0 w0) := Lib.hid (Below.refl _ _)
    go_wp2_with fail
    refine (drawCyc_any a len cap _ HCODE.out).mono ?_
    rintro e w_1 ⟨gRP, cRP, p, hlRP, rfl, hcRP, hg, hrow, hb⟩
    have RP := Lib.hid hrow
    have hnRP : p.length ≤ 1048576 := by omega
    have BN := Lib.hid (B0.out.trans (hb.mono B0.out.size))
    clear B0
    have B0 := BN
    clear BN
    have HCODEz := Lib.hid (HCODE.out.below hb)
    clear HCODE
    have HCODE := HCODEz
    clear HCODEz
    clear hrow hb hg
    clear HCODE
    obtain ⟨R, ok, hR⟩ : ∃ x b, cycF p = (x, b) := ⟨_, _, rfl⟩
    have HCI := Lib.hid (fun v W (h : FlatAt W v p.length (ints p)) => by have := implCyc_any v p W h hnRP; rw [hR] at this; exact this)
    have HCS := Lib.hid (fun v W (h : FlatAt W v p.length (ints p)) => by have := specCyc_any v p W h hnRP; rw [hR] at this; exact this)
    have HSM : Hid (SmallSS R) := Lib.hid (by have := cycF_small p; rw [hR] at this; exact this)
    have HR := Lib.hid hR
    clear hR
    go_wp2_with fail
    refine (HCI.out _ _ (RP.out.flat hcRP)).mono ?_
    rintro e w_2 ⟨gFI, cFI, GFI, CFI, rfl, hcFI, hnest, hb⟩
    simp only at hcFI hnest
    have hyFI := Lib.hid (hnest.rowsI hcFI)
    have RPz := Lib.hid (RP.out.below hb RP.out.1)
    clear RP
    have RP := RPz
    clear RPz
    have BN := Lib.hid (B0.out.trans (hb.mono B0.out.size))
    clear B0
    have B0 := BN
    clear BN
    have FI := hyFI
    clear hyFI hnest hb
    go_wp2_with fail
    refine (HCS.out _ _ (RP.out.flat hcRP)).mono ?_
    rintro e w_3 ⟨gFS, cFS, GFS, CFS, rfl, hcFS, hnest, hb⟩
    simp only at hcFS hnest
    have hyFS := Lib.hid (hnest.rowsI hcFS)
    have FIz := Lib.hid (FI.out.below hb)
    clear FI
    have FI := FIz
    clear FIz
    have RPz := Lib.hid (RP.out.below hb RP.out.1)
    clear RP
    have RP := RPz
    clear RPz
    have BN := Lib.hid (B0.out.trans (hb.mono B0.out.size))
    clear B0
    have B0 := BN
    clear BN
    have FS := hyFS
    clear hyFS hnest hb
    clear HCI HCS
    cases ok
    case false =>
      obtain ⟨hnok, rfl, hsf⟩ := cyc_bad HR.out
      have HSI := Lib.hid (fun v W (h : FlatAt W v p.length (ints p)) => by have := implSign_any v p W h hnRP; rw [hsf] at this; exact this)
      clear hnok hsf HR HSM
      go_wp2_with fail
      go_loopw [8, 9, 10] (fun nv iv _ wr => nv = .int .i64 0 ∧ iv = .int .i64 0 ∧ wr = w_3) (fun _ _ _ _ => 0)
      case atStart => exact ⟨rfl, rfl, rfl⟩
      case round =>
        obtain ⟨rfl, rfl, rfl⟩ := hrel
        go_wp2_with fail
        refine (HSI.out _ _ (RP.out.flat hcRP)).mono ?_
        rintro e w_4 ⟨rfl, hb⟩
        have FIz := Lib.hid (FI.out.below hb)
        clear FI
        have FI := FIz
        clear FIz
        have FSz := Lib.hid (FS.out.below hb)
        clear FS
        have FS := FSz
        clear FSz
        have RPz := Lib.hid (RP.out.below hb RP.out.1)
        clear RP
        have RP := RPz
        clear RPz
        have BN := Lib.hid (B0.out.trans (hb.mono B0.out.size))
        clear B0
        have B0 := BN
        clear BN
        clear hb
        go_wp2_with fail
        go_ret
        exact ⟨rfl, B0.out⟩
    obtain ⟨hok, hRl, hoff, hsg, hel⟩ := cyc_law HR.out
    have hp64 := hok.1
    have HSI := Lib.hid (fun v W (h : FlatAt W v p.length (ints p)) => by have := implSign_any v p W h hnRP; rw [hsg] at this; exact this)
    have HOFF := Lib.hid hoff
    have HEL := Lib.hid hel
    have HPC : Hid (∀ (j : Nat) x, p[j]? = some x → w_3.cell? ⟨gRP, j, none⟩ = some (.int .i64 x)) := Lib.hid (fun j x hj => (RP.out.2 j _ (ints_at hj)).1)
    have hgp : gRP < w_3.heap.size := RP.out.1
    have HIR := FI
    obtain ⟨_, _, hIe, _, hI⟩ := FI.out
    obtain ⟨_, _, hSe, _, hS⟩ := FS.out
    simp at hIe hSe
    obtain ⟨rfl, rfl⟩ := hIe
    obtain ⟨rfl, rfl⟩ := hSe
    have HI := Lib.hid hI
    have HS := Lib.hid hS
    clear hok hoff hsg hel HR hI hS HIR
    go_wp2_with fail
    go_loopw [8, 9, 10] (fun nv iv _ wr => ∃ i : Nat, i ≤ R.length ∧ nv = .int .i64 (offs R i : Nat) ∧ iv = .int .i64 i ∧ Below w_3.heap.size w_3 wr) (fun _ iv _ _ => R.length - (intOf iv).toNat)
    case atStart => exact ⟨0, Nat.zero_le _, rfl, rfl, Below.refl _ _⟩
    case round =>
      obtain ⟨i, hi, rfl, rfl, hb⟩ := hrel
      have HB := Lib.hid hb
      have ho1 := offs_le R i
      rw [HOFF.out] at ho1
      clear hb
      by_cases hlt : i < R.length
      · obtain ⟨x, hx⟩ : ∃ x, R[i]? = some x := ⟨_, List.getElem?_eq_getElem hlt⟩
        obtain ⟨hx0, hxp, hxe⟩ := HEL.out i x hx
        have hcs : (R.map ints)[i]? = some (ints x) := by rw [List.getElem?_map, hx]; rfl
        obtain ⟨b, o, u, e1, hbb, hc, hu⟩ := HI.out i _ hcs
        obtain ⟨b', o', u', e2, hbb', hc', hu'⟩ := HS.out i _ hcs
        simp at e1 e2
        obtain ⟨rfl, rfl⟩ := e1
        obtain ⟨rfl, rfl⟩ := e2
        rw [ints_length] at hu hu'
        rw [Nat.zero_add] at hc hc'
        obtain ⟨au, cu, rfl, hcu, hcell⟩ := id hu
        obtain ⟨au', cu', rfl, _, _⟩ := id hu'
        have hw1 : wr.cell? ⟨gFI, i, none⟩ = some (.slice au x.length cu) := (HB.out.cell (p := ⟨gFI, i, none⟩) hbb).trans hc
        have hw2 : wr.cell? ⟨gFS, i, none⟩ = some (.slice au' x.length cu') := (HB.out.cell (p := ⟨gFS, i, none⟩) hbb').trans hc'
        have HD : Hid (∀ n, Below w_3.heap.size w_3 (wr.drewN n)) := Lib.hid fun n => HB.out.trans (show Below w_3.heap.size wr (wr.drewN n) from ⟨rfl, rfl, rfl, Nat.le_refl _, fun _ _ => rfl⟩)
        have HU := Lib.hid (fun W (h : Below w_3.heap.size w_3 W) => hu.below h)
        have HU' := Lib.hid (fun W (h : Below w_3.heap.size w_3 W) => hu'.below h)
        have HXE := Lib.hid hxe
        have HCELL := Lib.hid hcell
        have HOS := Lib.hid (offs_succ hx)
        have hxn : x.length ≤ 1048576 := by omega
        have hiz : (i : Int) < R.length := by omega
        clear hc hc' hx hcs hu hu' hxe hcell
        go_wp2_with fail
        go_region_with (go_at_call 21; refine (vInts_yes _ _ x _ (HU.out _ (HD.out 1)) (HU'.out _ (HD.out 1)) hxn).mono ?_; rintro e w2 ⟨rfl, hb2⟩)
        all_goals
          have HB2 : Hid (Below w_3.heap.size w_3 w2) := Lib.hid ((HD.out 1).trans (hb2.mono (HD.out 1).size))
          have hw3 : w2.cell? ⟨gFI, i, none⟩ = some (.slice au x.length cu) := (HB2.out.cell (p := ⟨gFI, i, none⟩) hbb).trans ((HB.out.cell (p := ⟨gFI, i, none⟩) hbb).symm.trans hw1)
          clear hb2 hw1 hw2 HU HU' HD
          go_wp2_with fail
          go_loopw [10] (fun kv ws => ∃ (k m : Nat), k ≤ x.length ∧ kv = .int .i64 k ∧ ws = w2.drewN m) (fun kv _ => x.length - (intOf kv).toNat)
          case atStart => exact ⟨0, 0, Nat.zero_le _, rfl, rfl⟩
          case round =>
            obtain ⟨k, m, hk, rfl, rfl⟩ := hrel
            by_cases hkl : k < x.length
            · obtain ⟨e, e', h1, h2, h3, h4⟩ := HXE.out k hkl
              obtain ⟨bu, ou, rfl, hbu, hcu1⟩ := HCELL.out k _ (ints_at h1)
              obtain ⟨bu2, ou2, eu2, _, hcu2⟩ := HCELL.out _ _ (ints_at h3)
              simp at eu2
              obtain ⟨rfl, rfl⟩ := eu2
              obtain ⟨rr, hrr⟩ : ∃ rr, rr = (k + 1) % x.length := ⟨_, rfl⟩
              rw [← hrr] at hcu2
              have hv1 : w2.cell? ⟨bu, ou + k, none⟩ = some (.int .i64 (e : Int)) := (HB2.out.cell (p := ⟨bu, ou + k, none⟩) hbu).trans hcu1
              have hv2 : w2.cell? ⟨bu, ou + rr, none⟩ = some (.int .i64 (e' : Int)) := (HB2.out.cell (p := ⟨bu, ou + rr, none⟩) hbu).trans hcu2
              have hv3 : w2.cell? ⟨gRP, e, none⟩ = some (.int .i64 (e' : Int)) := (HB2.out.cell (p := ⟨gRP, e, none⟩) hgp).trans (HPC.out e _ h4)
              have hrl : rr < x.length := by rw [hrr]; exact Nat.mod_lt _ (by omega)
              obtain ⟨k1, hk1⟩ : ∃ k1, k1 = k + 1 := ⟨_, rfl⟩
              have hwk : IntKind.i64.wrap ((k : Int) + 1) = (k1 : Int) := by rw [IntKind.wrap_i64]; omega
              have hrem : (k1 : Int) % (x.length : Int) = (rr : Int) := by rw [hrr, ← hk1]; exact (Int.natCast_emod k1 x.length).symm
              have hrem2 : Int.tmod (k1 : Int) (x.length : Int) = (rr : Int) := by rw [Int.tmod_eq_emod_of_nonneg (by omega)]; exact hrem
              have hkz : (k : Int) < x.length := by omega
              have hez : (e : Int) < p.length := by omega
              have hrz : (rr : Int) < x.length := by omega
              have hx0z : ((x.length : Int) == 0) = false := beq_eq_false_iff_ne.2 (by omega)
              have hx0n : ¬ x.length = 0 := by omega
              have HK1 := Lib.hid hk1
              clear h1 h3 h4 hcu1 hcu2 hrr hk1
              go_wp2_with fail
              go_quiet (fail)
              go_wp2_with fail
              go_roundw
              case rel => exact ⟨k + 1, m + nq, by omega, by first | go_num | rw [HK1.out], by first | trivial | rfl | simp⟩
              case measure => have := HK1.out; simp [intOf]; omega
            · obtain rfl : k = x.length := by omega
              have HB3 : Hid (Below w_3.heap.size w_3 (w2.drewN m)) := Lib.hid (HB2.out.trans ⟨rfl, rfl, rfl, Nat.le_refl _, fun _ _ => rfl⟩)
              have ho2 := HOS.out
              have ho3 := offs_le R (i + 1)
              rw [HOFF.out] at ho3
              generalize offs R i = n0 at *
              obtain ⟨n1, hn1⟩ : ∃ n1, n1 = offs R (i + 1) := ⟨_, rfl⟩
              rw [← hn1] at ho2 ho3
              have HN1 := Lib.hid hn1
              clear hn1
              have hsum : IntKind.i64.wrap ((n0 : Int) + (x.length : Int)) = (n1 : Int) := by rw [IntKind.wrap_i64]; omega
              have hsum2 : (n0 : Int) + (x.length : Int) = (n1 : Int) := by omega
              have HSUM := Lib.hid hsum2
              clear ho2 hsum2
              go_wp2_with fail
              go_roundw
              case rel => exact ⟨i + 1, by omega, by first | (rw [← HN1.out]; done) | (rw [← HN1.out, HSUM.out]), by go_num, HB3.out⟩
              case measure => simp [intOf]; omega
      · obtain rfl : i = R.length := by omega
        have hnn : offs R R.length = p.length := HOFF.out
        rw [hnn]
        clear hnn ho1
        have hb := HB.out
        have FIz := Lib.hid (FI.out.below hb)
        clear FI
        have FI := FIz
        clear FIz
        have FSz := Lib.hid (FS.out.below hb)
        clear FS
        have FS := FSz
        clear FSz
        have RPz := Lib.hid (RP.out.below hb RP.out.1)
        clear RP
        have RP := RPz
        clear RPz
        have BN := Lib.hid (B0.out.trans (hb.mono B0.out.size))
        clear B0
        have B0 := BN
        clear BN
        clear hb
        go_wp2_with fail
        refine (HSI.out _ _ (RP.out.flat hcRP)).mono ?_
        rintro e w_5 ⟨rfl, hb⟩
        have FIz := Lib.hid (FI.out.below hb)
        clear FI
        have FI := FIz
        clear FIz
        have FSz := Lib.hid (FS.out.below hb)
        clear FS
        have FS := FSz
        clear FSz
        have RPz := Lib.hid (RP.out.below hb RP.out.1)
        clear RP
        have RP := RPz
        clear RPz
        have BN := Lib.hid (B0.out.trans (hb.mono B0.out.size))
        clear B0
        have B0 := BN
        clear BN
        clear hb
        obtain ⟨d, hd⟩ : ∃ d, d = p.length - R.length := ⟨_, rfl⟩
        rw [← hd]
        have hwd : IntKind.i64.wrap ((p.length : Int) - (R.length : Int)) = (d : Int) := by rw [IntKind.wrap_i64]; omega
        have hd64 : d ≤ 64 := by omega
        clear hd HSI
        rcases Nat.mod_two_eq_zero_or_one d with h2 | h2
        · have hpm : P.pm d = 1 := by unfold P.pm; rw [if_pos h2]
          have hm1 : (d : Int) % 2 = 0 := by omega
          have hm2 : Int.tmod (d : Int) 2 = 0 := by rw [Int.tmod_eq_emod_of_nonneg (by omega)]; exact hm1
          rw [hpm]
          clear hpm h2
          go_wp2_with fail
          go_ret
          exact ⟨rfl, B0.out⟩
        · have hpm : P.pm d = -1 := by unfold P.pm; rw [if_neg (by omega)]
          have hm1 : (d : Int) % 2 = 1 := by omega
          have hm2 : Int.tmod (d : Int) 2 = 1 := by rw [Int.tmod_eq_emod_of_nonneg (by omega)]; exact hm1
          rw [hpm]
          clear hpm h2
          go_wp2_with fail
          go_ret
          exact ⟨rfl, B0.out⟩

set_option maxRecDepth 100000 in
theorem lifted (os : Os) (started : os.Started) (H : Type) (enc : TypeId × Value → H) :
    ReturnsInHanded {} Try.checked os 3 .any (Rows.fnCyclesSpec.pre6 enc Try.prog Try.f3 Rows.fnCyclesRow.domain false) (Rows.fnCyclesSpec.post enc Try.prog Try.f3 false true false false) := by
  refine returnsInHanded_of_change (C := Try.checked) own started (by kernel_rfl) Try.func3
    (ChangeSpec.witness6 (enc := enc) (C := Try.checked) false ⟨#[], #[.slice none 0 0], []⟩ 8 (by kernel_rfl) (by kernel_rfl) (by kernel_rfl) (by kernel_rfl)) ?_
  intro W base args ds gs before hval0 hW hcnd _
  have hval : ∀ (j : Nat) t v, Try.f3.params[j]? = some t → args[j]? = some v → Value.okWide Try.prog W .any base t v := hval0
  have hW' := hW
  obtain ⟨p, q, hA0, hV, rfl, hfz, hnd⟩ := hW
  have hA : DataW.TrodAll enc Try.prog W 0 (fun _ => true) true Try.f3.params.toList args.toList ds p := hA0
  rw [Try.params3] at hA hval
  obtain ⟨v0, vs0, d0, ds0, p0, q0, hargs, rfl, rfl, h0, r0⟩ := trodAll_cons hA
  obtain ⟨rfl, rfl, rfl⟩ := trodAll_nil r0
  obtain rfl : args = #[v0] := by cases args; simp_all
  obtain ⟨rfl, rfl⟩ := trodVars_none hV
  obtain ⟨a0, len0, cap0, rfl⟩ := okWide_slice Try.underlying22 (hval 0 22 v0 rfl rfl)
  have k0 := h0
  have lt0 : ∀ x ∈ p0, x.block < W.heap.size := by obtain ⟨m, hm⟩ := k0; exact DataW.trod_lt m _ _ _ hm
  obtain ⟨z0, w0⟩ : ∃ zs, IsRow .u8 W a0 len0 cap0 zs := by
    obtain ⟨fuel, hf⟩ := h0
    rcases open_ints Try.underlying22 Try.underlying5 (by kernel_rfl) hf with ⟨hcs, _⟩ | ⟨x, l, c, zs, hcs, _, hl, hm, hz, _, hcell, hwz⟩
    · simp [Value.cells] at hcs
      obtain ⟨rfl, rfl, rfl⟩ := hcs
      exact ⟨[], .inl ⟨rfl, rfl, rfl, rfl⟩⟩
    · simp [Value.cells] at hcs
      obtain ⟨rfl, rfl, rfl⟩ := hcs
      exact ⟨zs, .inr ⟨_, rfl, hl, hm, by simpa using hz, hcell, hwz⟩⟩
  clear hA0 hval0
  refine (walk a0 len0 cap0 z0 W w0).mono fun e W' ⟨he, bel⟩ => ?_
  subst he
  exact ⟨_, rfl, _, _, _, [], _, [], hW', trodAll_mk1 (shut_bool Try.underlying4 _), (trodAll_cons_mk (Below.trod laidOut (by kernel_rfl) (of_decide_eq_true (by kernel_rfl)) k0 bel lt0) trodAll_mk0), rfl, bel.frame _, fun h => by cases h⟩

theorem closed : joinedFacts Try.prog 3 Try.f3 Rows.fnCyclesSpec Rows.fnCyclesRow = true := by
  unfold joinedFacts
  rw [head_enter, head_final, head_make]
  kernel_rfl

theorem over : Rows.fnCyclesRow.holds Try.pinned (OpenSpec.ofChange Rows.fnCyclesSpec) :=
  OpenClaim.holds_of_wide 3 Try.f3 rfl rfl rfl rfl rfl rfl rfl ⟨rfl, rfl, rfl, rfl, rfl⟩ rfl rfl rfl rfl rfl (by kernel_rfl) Try.func3 closed
    (of_decide_eq_true (by kernel_rfl)) (by unfold Func.isWrapper; first | (rw [if_pos (by decide +kernel)]; kernel_rfl) | (rw [if_neg (by decide +kernel)]; exact ⟨rfl, rfl⟩))
    (fun os started H enc _ => lifted os started H enc)

theorem proved : Rows.FnCyclesSaid := over
#print axioms proved
end Go.Proofs.Ytjmmhakmidddoaa.fnCycles
