/- FnHeap returns true at every input. No condition. -/
import Derived.Test.YtfcgnfhpfooelaaRows
import Derived.WalkKit
import Derived.ProofKit
import Derived.OpenShut
import Derived.ShutString
import Derived.ChangeOld
import Derived.Below
import Derived.SliceStrings
import Derived.Test.YtfcgnfhpfooelaaHead
import Derived.Test.YtfcgnfhpfooelaaHeapQ
import Derived.Test.YtfcgnfhpfooelaaIBld
import Derived.Test.YtfcgnfhpfooelaaSBld
import Derived.Test.YtfcgnfhpfooelaaIPop2
import Derived.Test.YtfcgnfhpfooelaaRetF
import Derived.Test.YtfcgnfhpfooelaaVOrd
import Derived.Test.YtfcgnfhpfooelaaVInts
import Derived.Test.YtfcgnfhpfooelaaDrawHp2
import Derived.Test.YtfcgnfhpfooelaaCode
namespace Go.Proofs.Ytfcgnfhpfooelaa.fnHeap
open Go.ChangeShapes Go.WideShapes Go.ChangeAt Go.RowKit
open Go.ChangeMaps (open_string shut_string)
set_option linter.unusedVariables false

theorem own : ownKnob Try.prog.godebug = none := by kernel_rfl
theorem laidOut : laidOutB Try.prog = true := by kernel_rfl

def IsRow (k : IntKind) (w : World) (a : Option Addr) (len cap : Nat) (zs : List Int) : Prop :=
  (a = none ∧ len = 0 ∧ cap = 0 ∧ zs = []) ∨
  ∃ x, a = some x ∧ len ≤ cap ∧ cap ≤ maxLen ∧ zs.length = cap ∧ (∀ i, i < zs.length → w.cell? (x.add i) = some (.int k (zs.getD i 0))) ∧ ∀ n ∈ zs, (Lit.int k n).wf = true

theorem code_of {w : World} {a : Option Addr} {len cap : Nat} {zs : List Int} (h : IsRow .u8 w a len cap zs) : Code0 w a len := by
  intro k hk
  rcases h with ⟨_, rfl, _⟩ | ⟨x, rfl, hlc, _, hz, hc, hw⟩
  · omega
  · have hkz : k < zs.length := by omega
    have hd : zs.getD k 0 = zs[k] := by simp [List.getD, hkz]
    have hm := hw zs[k] (List.getElem_mem hkz)
    have hcell := hc k hkz
    rw [hd] at hcell
    have hlt := World.block_lt_of_cell? w _ hcell
    have hbk := Go.ChangeShapes.block_add x k
    have hr := bounds_u8 hm
    exact ⟨x, zs[k], rfl, by omega, hcell, hr.1, hr.2⟩

theorem vbig_no (a : Option Addr) (len cap : Nat) (w : World) (h : len ≤ 65536) : Calls Try.prog 17 #[.slice a len cap] w fun e w' => e = .returned (.bool false) ∧ w' = w := by
  go_enter Try.func17, Try.ntmps17
  have hq : decide ((65536 : Int) < (len : Int)) = false := decide_eq_false (by omega)
  go_wp2
  go_ret
  exact ⟨by rw [← hq]; rfl, rfl⟩

set_option maxRecDepth 100000 in
set_option maxHeartbeats 40000000 in
theorem walk (a : Option Addr) (len cap : Nat) (z : List Int) (w : World) (w0 : IsRow .u8 w a len cap z) :
    Calls Try.prog 6 #[.slice a len cap] w fun e w' => e = .returned (.bool true) ∧ Below w.heap.size w w' := by
  have hlen : len ≤ maxLen := by
    rcases w0 with ⟨_, rfl, _⟩ | ⟨x, _, h1, h2, _⟩ <;> omega
  unfold maxLen at hlen
  have HCODE := Lib.hid (code_of w0)
  clear w0
  by_cases hbig : 65536 < len
  · clear HCODE
    go_enter Try.func6, Try.ntmps6
    go_wp2
    go_ret
    exact ⟨rfl, Below.refl _ _⟩
  · go_enter Try.func6, Try.ntmps6
    go_wp2_with fail
    refine (vbig_no a len cap _ (by omega)).mono ?_
    rintro e w0 ⟨rfl, rfl⟩
    clear hlen hbig
    have B0 : Hid (Below w0.heap.size w0 w0) := Lib.hid (Below.refl _ _)
    go_wp2_with fail
    refine (drawBuildHeap_any a len cap _ HCODE.out).mono ?_
    rintro e w_1 ⟨gRL, cRL, li, d, hlRL, hd1, hd9, rfl, hcRL, hgl, hrow, hb⟩
    have RL := Lib.hid hrow
    have hnRL : li.length ≤ 1048576 := by omega
    have BN := Lib.hid (B0.out.trans (hb.mono B0.out.size))
    clear B0
    have B0 := BN
    clear BN
    clear hrow hb HCODE hgl
    obtain ⟨H, q, okl, hB⟩ : ∃ x1 y b, Hp.bldAll li (d : Int) = (x1, y, b) := ⟨_, _, _, rfl⟩
    obtain ⟨A, tt, hA⟩ : ∃ x1 b, Hp.isAll li (d : Int) = (x1, b) := ⟨_, _, rfl⟩
    have HI := Lib.hid (fun b o c W (h : FlatAt W (.slice (some ⟨b, o, none⟩) li.length c) li.length (ints li)) => by have := (implBld_any (some ⟨b, o, none⟩) c li (d : Int) W ⟨h, fun e => by simp at e⟩ hnRL).mono fun e w2 hq => hq.flat; rw [hB] at this; exact this)
    have HSP := Lib.hid (fun b o c W (h : FlatAt W (.slice (some ⟨b, o, none⟩) li.length c) li.length (ints li)) => by have := (specBld_any b o c li (d : Int) W h hnRL).mono fun e w2 hq => hq.flat; rw [hB] at this; exact this)
    have HII := Lib.hid (fun v W (h : FlatAt W v li.length (ints li)) => by have := implIsHeap_any v li (d : Int) W h hnRL; rw [hA] at this; exact this)
    have HIS := Lib.hid (fun v W (h : FlatAt W v li.length (ints li)) => by have := specIsHeap_any v li (d : Int) W h hnRL; rw [hA] at this; exact this)
    have hh : H.length ≤ 1048576 := by have := Hp.bldAll_len li (d : Int); rw [hB] at this; exact this
    have HF := Lib.hid (Hp.build_facts hB hA)
    have HPO := Lib.hid (fun v K W (h : FlatAt W v K.length (ints K)) (hk : K.length ≤ 1048576) => (implPop_any v K (d : Int) W h hk).mono fun e w2 hq => hq.flat)
    clear hB hA
    go_wp2_with fail
    refine (HI.out _ _ _ _ (RL.out.flat hcRL)).mono ?_
    rintro e w_2 ⟨aRQ, cRQ, rfl, hf, hb⟩
    simp only at hf
    have hyRQ := Lib.hid hf
    have RLz := Lib.hid (RL.out.below hb RL.out.1)
    clear RL
    have RL := RLz
    clear RLz
    have BN := Lib.hid (B0.out.trans (hb.mono B0.out.size))
    clear B0
    have B0 := BN
    clear BN
    have RQ := hyRQ
    clear hyRQ hf hb
    go_wp2_with fail
    refine (HSP.out _ _ _ _ (RL.out.flat hcRL)).mono ?_
    rintro e w_3 ⟨aRW, cRW, rfl, hf, hb⟩
    simp only at hf
    have hyRW := Lib.hid hf
    have RQz := Lib.hid (RQ.out.below hb)
    clear RQ
    have RQ := RQz
    clear RQz
    have RLz := Lib.hid (RL.out.below hb RL.out.1)
    clear RL
    have RL := RLz
    clear RLz
    have BN := Lib.hid (B0.out.trans (hb.mono B0.out.size))
    clear B0
    have B0 := BN
    clear BN
    have RW := hyRW
    clear hyRW hf hb
    go_wp2_with fail
    refine (HII.out _ _ (RL.out.flat hcRL)).mono ?_
    rintro e w_4 ⟨rfl, hb⟩
    have RQz := Lib.hid (RQ.out.below hb)
    clear RQ
    have RQ := RQz
    clear RQz
    have RWz := Lib.hid (RW.out.below hb)
    clear RW
    have RW := RWz
    clear RWz
    have RLz := Lib.hid (RL.out.below hb RL.out.1)
    clear RL
    have RL := RLz
    clear RLz
    have BN := Lib.hid (B0.out.trans (hb.mono B0.out.size))
    clear B0
    have B0 := BN
    clear BN
    clear hb
    go_wp2_with fail
    refine (HIS.out _ _ (RL.out.flat hcRL)).mono ?_
    rintro e w_5 ⟨rfl, hb⟩
    have RQz := Lib.hid (RQ.out.below hb)
    clear RQ
    have RQ := RQz
    clear RQz
    have RWz := Lib.hid (RW.out.below hb)
    clear RW
    have RW := RWz
    clear RWz
    have RLz := Lib.hid (RL.out.below hb RL.out.1)
    clear RL
    have RL := RLz
    clear RLz
    have BN := Lib.hid (B0.out.trans (hb.mono B0.out.size))
    clear B0
    have B0 := BN
    clear BN
    clear hb
    go_wp2_with fail
    refine (vInts_yes _ _ H _ RQ.out RW.out hh).mono ?_
    rintro e w_6 ⟨rfl, hb⟩
    have RQz := Lib.hid (RQ.out.below hb)
    clear RQ
    have RQ := RQz
    clear RQz
    have RWz := Lib.hid (RW.out.below hb)
    clear RW
    have RW := RWz
    clear RWz
    have RLz := Lib.hid (RL.out.below hb RL.out.1)
    clear RL
    have RL := RLz
    clear RLz
    have BN := Lib.hid (B0.out.trans (hb.mono B0.out.size))
    clear B0
    have B0 := BN
    clear BN
    clear hb
    clear RW
    clear HI HSP HII HIS
    cases okl
    case false =>
      obtain rfl := HF.out.1 (by first | rfl | trivial)
      clear HF HPO
      go_wp2_with fail
      go_ret
      exact ⟨rfl, B0.out⟩
    obtain ⟨h64, hfh, hfp, hfA⟩ := HF.out.2 (by first | rfl | trivial)
    obtain ⟨SS, hSS⟩ : ∃ z, z = El.srt li := ⟨_, rfl⟩
    rw [← hSS] at hfp
    clear HF
    by_cases hA : A = -1
    · have hHe := (hfA hA).symm
      subst hHe
      subst hA
      go_wp2_with fail
      refine (vInts_yes _ _ li _ RQ.out (RL.out.flat hcRL) hh).mono ?_
      rintro e w_7 ⟨rfl, hb⟩
      have RQz := Lib.hid (RQ.out.below hb)
      clear RQ
      have RQ := RQz
      clear RQz
      have RLz := Lib.hid (RL.out.below hb RL.out.1)
      clear RL
      have RL := RLz
      clear RLz
      have BN := Lib.hid (B0.out.trans (hb.mono B0.out.size))
      clear B0
      have B0 := BN
      clear BN
      clear hb
      have HVO := Lib.hid (fun b o c W (h : FlatAt W (.slice (some ⟨b, o, none⟩) li.length c) li.length (ints li)) => by have := vOrdered_any b o c li W h h64; rw [← hSS] at this; exact this)
      go_wp2_with fail
      refine (HVO.out _ _ _ _ (RL.out.flat hcRL)).mono ?_
      rintro e w_8 ⟨gRO, cRO, rfl, hcRO, hg, hrow, hb⟩
      have hyRO := Lib.hid hrow
      have RQz := Lib.hid (RQ.out.below hb)
      clear RQ
      have RQ := RQz
      clear RQz
      have RLz := Lib.hid (RL.out.below hb RL.out.1)
      clear RL
      have RL := RLz
      clear RLz
      have BN := Lib.hid (B0.out.trans (hb.mono B0.out.size))
      clear B0
      have B0 := BN
      clear BN
      have RO := hyRO
      clear hyRO hrow hb hg HVO
      clear RL
      have HSS := Lib.hid hSS
      have hssl : SS.length = li.length := by rw [hSS, El.srt_length]
      have HAS : Hid (El.Asc SS) := Lib.hid (by rw [hSS]; exact El.srt_asc li)
      have hHl : li.length = SS.length := by rw [hfp.length_eq]
      have HHL := Lib.hid hHl
      have HFH := Lib.hid hfh
      have HFP : Hid (li.Perm (SS.take li.length)) := Lib.hid (by rw [hHl, List.take_length]; exact hfp)
      have hss64 : SS.length ≤ 64 := by omega
      have HR0 := Lib.hid RQ.out
      clear hSS hfp hfh hHl hssl
      go_wp2_with fail
      go_loopw [5, 16, 17, 18, 19, 20] (fun hv nv _ _ _ _ wr => ∃ (m : Nat) (K : List Int) (a1 : Option Addr) (c1 : Nat), hv = .slice a1 K.length c1 ∧ nv = .int .i64 (m : Int) ∧ K.length = m ∧ m ≤ SS.length ∧ Hp.IsHp K (d : Int) ∧ K.Perm (SS.take m) ∧ FlatAt wr (.slice a1 K.length c1) K.length (ints K) ∧ Below (w_8).heap.size w_8 wr) (fun _ nv _ _ _ _ _ => (intOf nv).toNat)
      case atStart => exact ⟨li.length, li, _, _, rfl, rfl, rfl, Nat.le_of_eq HHL.out, HFH.out, HFP.out, HR0.out, Below.refl _ _⟩
      case round =>
        obtain ⟨m, K, a1, c1, rfl, rfl, hKl, hms, hKh, hKp, hKf, hb⟩ := hrel
        have HBB := Lib.hid hb
        have HKF := Lib.hid hKf
        have hKn : K.length ≤ 1048576 := by omega
        cases m with
        | zero =>
          obtain rfl := List.eq_nil_of_length_eq_zero hKl
          have HP0 := Lib.hid (by have := HPO.out _ [] wr HKF.out hKn; rw [Hp.pop_nil] at this; exact this)
          have HBE := Lib.hid (B0.out.trans (HBB.out.mono B0.out.size))
          clear hKl hKh hKp hb hKf HPO HFH HFP HR0 HKF RO RQ
          go_wp2_with fail
          refine HP0.out.mono ?_
          rintro e wz ⟨az, cz, rfl, hf, hbz⟩
          have HBF := Lib.hid (HBE.out.trans (hbz.mono HBE.out.size))
          clear hf hbz HP0
          go_wp2_with fail
          go_ret
          exact ⟨rfl, HBF.out⟩
        | succ n =>
          obtain ⟨R, t, hpop, hRl, hRh, hRp⟩ := Hp.pop_step hKh hKl hKp HAS.out (by omega)
          have HPK := Lib.hid (by have := HPO.out _ K wr HKF.out hKn; rw [hpop] at this; exact this)
          obtain ⟨y, hy⟩ : ∃ y, y = SS.getD n 0 := ⟨_, rfl⟩
          rw [← hy] at HPK
          have hcy0 := ((RO.out.below HBB.out RO.out.1).2 n _ (ints_at (P.at_getD (by omega)))).1
          rw [← hy] at hcy0
          have HROW := Lib.hid (RO.out.below HBB.out RO.out.1)
          have HYY := Lib.hid hy
          have HKL := Lib.hid hKl
          have HRL := Lib.hid hRl
          have HRH := Lib.hid hRh
          have HRP := Lib.hid hRp
          have hn1 : ((n + 1 : Nat) : Int) - 1 = (n : Int) := by omega
          have hwn : IntKind.i64.wrap (((n + 1 : Nat) : Int) - 1) = (n : Int) := by rw [hn1, IntKind.wrap_i64]; omega
          have hnz : (n : Int) < SS.length := by omega
          have hnS : n < SS.length := by omega
          have hn0 : (0 : Int) < ((n + 1 : Nat) : Int) := by omega
          clear hKl hKh hKp hb hKf HKF hpop hRl hRh hRp HPO HFH HFP HR0 hy hKn
          rw [HKL.out] at HPK ⊢
          have HSZ := HBB.out.size
          go_wp2_with fail
          refine HPK.out.mono ?_
          rintro e wz ⟨az, cz, rfl, hf, hbz⟩
          simp only at hf
          have HF2 := Lib.hid hf
          have HBZ := Lib.hid (HBB.out.trans (hbz.mono HBB.out.size))
          have hcy := ((HROW.out.below hbz HROW.out.1).2 n _ (ints_at (P.at_getD hnS))).1
          rw [← HYY.out] at hcy
          simp only
          rw [HRL.out]
          clear hf hbz HPK hcy0 HROW HBB
          go_wp2_with fail
          go_roundw
          case rel => exact ⟨n, R, az, cz, by rw [HRL.out], by go_num, HRL.out, by omega, HRH.out, HRP.out, HF2.out, HBZ.out⟩
          case measure => simp [intOf]
    · have hAd : (A == -1) = false := beq_eq_false_iff_ne.2 hA
      clear hfA
      have HVO := Lib.hid (fun b o c W (h : FlatAt W (.slice (some ⟨b, o, none⟩) li.length c) li.length (ints li)) => by have := vOrdered_any b o c li W h h64; rw [← hSS] at this; exact this)
      go_wp2_with fail
      refine (HVO.out _ _ _ _ (RL.out.flat hcRL)).mono ?_
      rintro e w_9 ⟨gRO, cRO, rfl, hcRO, hg, hrow, hb⟩
      have hyRO := Lib.hid hrow
      have RQz := Lib.hid (RQ.out.below hb)
      clear RQ
      have RQ := RQz
      clear RQz
      have RLz := Lib.hid (RL.out.below hb RL.out.1)
      clear RL
      have RL := RLz
      clear RLz
      have BN := Lib.hid (B0.out.trans (hb.mono B0.out.size))
      clear B0
      have B0 := BN
      clear BN
      have RO := hyRO
      clear hyRO hrow hb hg HVO
      clear RL
      have HSS := Lib.hid hSS
      have hssl : SS.length = li.length := by rw [hSS, El.srt_length]
      have HAS : Hid (El.Asc SS) := Lib.hid (by rw [hSS]; exact El.srt_asc li)
      have hHl : H.length = SS.length := by rw [hfp.length_eq]
      have HHL := Lib.hid hHl
      have HFH := Lib.hid hfh
      have HFP : Hid (H.Perm (SS.take H.length)) := Lib.hid (by rw [hHl, List.take_length]; exact hfp)
      have hss64 : SS.length ≤ 64 := by omega
      have HR0 := Lib.hid RQ.out
      clear hSS hfp hfh hHl hssl
      go_wp2_with fail
      go_loopw [5, 16, 17, 18, 19, 20] (fun hv nv _ _ _ _ wr => ∃ (m : Nat) (K : List Int) (a1 : Option Addr) (c1 : Nat), hv = .slice a1 K.length c1 ∧ nv = .int .i64 (m : Int) ∧ K.length = m ∧ m ≤ SS.length ∧ Hp.IsHp K (d : Int) ∧ K.Perm (SS.take m) ∧ FlatAt wr (.slice a1 K.length c1) K.length (ints K) ∧ Below (w_9).heap.size w_9 wr) (fun _ nv _ _ _ _ _ => (intOf nv).toNat)
      case atStart => exact ⟨H.length, H, _, _, rfl, rfl, rfl, Nat.le_of_eq HHL.out, HFH.out, HFP.out, HR0.out, Below.refl _ _⟩
      case round =>
        obtain ⟨m, K, a1, c1, rfl, rfl, hKl, hms, hKh, hKp, hKf, hb⟩ := hrel
        have HBB := Lib.hid hb
        have HKF := Lib.hid hKf
        have hKn : K.length ≤ 1048576 := by omega
        cases m with
        | zero =>
          obtain rfl := List.eq_nil_of_length_eq_zero hKl
          have HP0 := Lib.hid (by have := HPO.out _ [] wr HKF.out hKn; rw [Hp.pop_nil] at this; exact this)
          have HBE := Lib.hid (B0.out.trans (HBB.out.mono B0.out.size))
          clear hKl hKh hKp hb hKf HPO HFH HFP HR0 HKF RO RQ
          go_wp2_with fail
          refine HP0.out.mono ?_
          rintro e wz ⟨az, cz, rfl, hf, hbz⟩
          have HBF := Lib.hid (HBE.out.trans (hbz.mono HBE.out.size))
          clear hf hbz HP0
          go_wp2_with fail
          go_ret
          exact ⟨rfl, HBF.out⟩
        | succ n =>
          obtain ⟨R, t, hpop, hRl, hRh, hRp⟩ := Hp.pop_step hKh hKl hKp HAS.out (by omega)
          have HPK := Lib.hid (by have := HPO.out _ K wr HKF.out hKn; rw [hpop] at this; exact this)
          obtain ⟨y, hy⟩ : ∃ y, y = SS.getD n 0 := ⟨_, rfl⟩
          rw [← hy] at HPK
          have hcy0 := ((RO.out.below HBB.out RO.out.1).2 n _ (ints_at (P.at_getD (by omega)))).1
          rw [← hy] at hcy0
          have HROW := Lib.hid (RO.out.below HBB.out RO.out.1)
          have HYY := Lib.hid hy
          have HKL := Lib.hid hKl
          have HRL := Lib.hid hRl
          have HRH := Lib.hid hRh
          have HRP := Lib.hid hRp
          have hn1 : ((n + 1 : Nat) : Int) - 1 = (n : Int) := by omega
          have hwn : IntKind.i64.wrap (((n + 1 : Nat) : Int) - 1) = (n : Int) := by rw [hn1, IntKind.wrap_i64]; omega
          have hnz : (n : Int) < SS.length := by omega
          have hnS : n < SS.length := by omega
          have hn0 : (0 : Int) < ((n + 1 : Nat) : Int) := by omega
          clear hKl hKh hKp hb hKf HKF hpop hRl hRh hRp HPO HFH HFP HR0 hy hKn
          rw [HKL.out] at HPK ⊢
          have HSZ := HBB.out.size
          go_wp2_with fail
          refine HPK.out.mono ?_
          rintro e wz ⟨az, cz, rfl, hf, hbz⟩
          simp only at hf
          have HF2 := Lib.hid hf
          have HBZ := Lib.hid (HBB.out.trans (hbz.mono HBB.out.size))
          have hcy := ((HROW.out.below hbz HROW.out.1).2 n _ (ints_at (P.at_getD hnS))).1
          rw [← HYY.out] at hcy
          simp only
          rw [HRL.out]
          clear hf hbz HPK hcy0 HROW HBB
          go_wp2_with fail
          go_roundw
          case rel => exact ⟨n, R, az, cz, by rw [HRL.out], by go_num, HRL.out, by omega, HRH.out, HRP.out, HF2.out, HBZ.out⟩
          case measure => simp [intOf]

set_option maxRecDepth 100000 in
theorem lifted (os : Os) (started : os.Started) (H : Type) (enc : TypeId × Value → H) :
    ReturnsInHanded {} Try.checked os 6 .any (Rows.fnHeapSpec.pre6 enc Try.prog Try.f6 Rows.fnHeapRow.domain false) (Rows.fnHeapSpec.post enc Try.prog Try.f6 false true false false) := by
  refine returnsInHanded_of_change (C := Try.checked) own started (by kernel_rfl) Try.func6
    (ChangeSpec.witness6 (enc := enc) (C := Try.checked) false ⟨#[], #[.slice none 0 0], []⟩ 8 (by kernel_rfl) (by kernel_rfl) (by kernel_rfl) (by kernel_rfl)) ?_
  intro W base args ds gs before hval0 hW hcnd _
  have hval : ∀ (j : Nat) t v, Try.f6.params[j]? = some t → args[j]? = some v → Value.okWide Try.prog W .any base t v := hval0
  have hW' := hW
  obtain ⟨p, q, hA0, hV, rfl, hfz, hnd⟩ := hW
  have hA : DataW.TrodAll enc Try.prog W 0 (fun _ => true) true Try.f6.params.toList args.toList ds p := hA0
  rw [Try.params6] at hA hval
  obtain ⟨v0, vs0, d0, ds0, p0, q0, hargs, rfl, rfl, h0, r0⟩ := trodAll_cons hA
  obtain ⟨rfl, rfl, rfl⟩ := trodAll_nil r0
  obtain rfl : args = #[v0] := by cases args; simp_all
  obtain ⟨rfl, rfl⟩ := trodVars_none hV
  obtain ⟨a0, len0, cap0, rfl⟩ := okWide_slice Try.underlying22 (hval 0 22 v0 rfl rfl)
  have k0 := h0
  have lt0 : ∀ x ∈ p0, x.block < W.heap.size := by obtain ⟨m, hm⟩ := k0; exact DataW.trod_lt m _ _ _ hm
  obtain ⟨z0, w0⟩ : ∃ zs, IsRow .u8 W a0 len0 cap0 zs := by
    obtain ⟨fuel, hf⟩ := h0
    rcases open_ints Try.underlying22 Try.underlying5 (by kernel_rfl) hf with ⟨hcs, _⟩ | ⟨x, l, c, zs, hcs, _, hl, hm, hz, _, hcell, hwz⟩
    · simp [Value.cells] at hcs
      obtain ⟨rfl, rfl, rfl⟩ := hcs
      exact ⟨[], .inl ⟨rfl, rfl, rfl, rfl⟩⟩
    · simp [Value.cells] at hcs
      obtain ⟨rfl, rfl, rfl⟩ := hcs
      exact ⟨zs, .inr ⟨_, rfl, hl, hm, by simpa using hz, hcell, hwz⟩⟩
  clear hA0 hval0
  refine (walk a0 len0 cap0 z0 W w0).mono fun e W' ⟨he, bel⟩ => ?_
  subst he
  exact ⟨_, rfl, _, _, _, [], _, [], hW', trodAll_mk1 (shut_bool Try.underlying4 _), (trodAll_cons_mk (Below.trod laidOut (by kernel_rfl) (of_decide_eq_true (by kernel_rfl)) k0 bel lt0) trodAll_mk0), rfl, bel.frame _, fun h => by cases h⟩

theorem closed : joinedFacts Try.prog 6 Try.f6 Rows.fnHeapSpec Rows.fnHeapRow = true := by
  unfold joinedFacts
  rw [head_enter, head_final, head_make]
  kernel_rfl

theorem over : Rows.fnHeapRow.holds Try.pinned (OpenSpec.ofChange Rows.fnHeapSpec) :=
  OpenClaim.holds_of_wide 6 Try.f6 rfl rfl rfl rfl rfl rfl rfl ⟨rfl, rfl, rfl, rfl, rfl⟩ rfl rfl rfl rfl rfl (by kernel_rfl) Try.func6 closed
    (of_decide_eq_true (by kernel_rfl)) (by unfold Func.isWrapper; first | (rw [if_pos (by decide +kernel)]; kernel_rfl) | (rw [if_neg (by decide +kernel)]; exact ⟨rfl, rfl⟩))
    (fun os started H enc _ => lifted os started H enc)

theorem proved : Rows.FnHeapSaid := over
#print axioms proved
end Go.Proofs.Ytfcgnfhpfooelaa.fnHeap
